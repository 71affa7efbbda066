/-
  PROVED HERE: serial.Order gives Check's error of a wrong list, ErrCycle where it goes around, else the order of all deals that commit, the least that could be next first. Old memory stays as it was.
  Conditions: none.
  (Of these, what the claim wants: the rest was left out.)
  PROVED HERE: lanetop.one answers true: one right history of two deals has the order that it should have; old memory stays as it was.
  Conditions: none.
-/
import Derived.Test.YtmjjiehnjghndaaGreatMgay
import Derived.Test.YtmjjiehnjghndaaGreatMgba
import Derived.Test.YtmjjiehnjghndaaGreatMgbc
import Derived.Test.YtmjjiehnjghndaaGreatMgbd
import Derived.Test.YtmjjiehnjghndaaGreatMgai
import Derived.RegionTactic
import Derived.Deep.RegionWith
namespace Go.Proofs.YtmjjiehnjghndaaGreat
open Go.RowKit

set_option maxHeartbeats 4000000 in
set_option maxRecDepth 100000 in
theorem ord_any (l : List Op3) (v : Value) (w : World) (h : IsOps w v l) (hc : (chk l).2 = 0) :
    Calls Tryz.prog 7 #[v] w fun e w' => ((∃ o v', serOrd (doneL l) = some o ∧ e = .returned (.tuple #[v', .nilIface]) ∧ IsInts w' v' o) ∨ (serOrd (doneL l) = none ∧ e = .returned (.tuple #[.slice none 0 0, .iface 43 (.int .i64 8)]))) ∧ Below w.heap.size w w' := by
  have hdd := ddeals_ok l v w h hc
  have hed : ∀ W, Below w.heap.size w W → Calls Tryz.prog 21 #[v] W fun e w' => ∃ v', e = .returned (.tuple #[v', .nilIface]) ∧ IsEdges w' v' (edgesTo (doneL l) 36) ∧ Below W.heap.size W w' := fun W hW => edges_ok l v W (h.below hW (Nat.le_refl _)) hc
  obtain ⟨d, hd⟩ : ∃ d, doneL l = d := ⟨_, rfl⟩
  rw [hd] at hdd hed ⊢
  have HD : Hid (Calls Tryz.prog 20 #[v] w fun e w' => ∃ u v', e = .returned (.tuple #[u, v', .nilIface]) ∧ IsOps w' u d ∧ w'.ownsRow w.heap.size 3 1 v' (dealsL d).length ((dealsL d).map (Value.int .i64)) ∧ Below w.heap.size w w') := hdd
  have HE : Hid (∀ W, Below w.heap.size w W → Calls Tryz.prog 21 #[v] W fun e w' => ∃ v', e = .returned (.tuple #[v', .nilIface]) ∧ IsEdges w' v' (edgesTo d 36) ∧ Below W.heap.size W w') := hed
  have HDL : Hid ((dealsL d).length ≤ 6) := dealsTo_len d 6
  clear hd hdd hed h hc
  go_enter Tryz.func7, Tryz.ntmps7
  go_wp2_with fail
  refine HD.out.mono ?_
  rintro e w1 ⟨u1, v1, rfl, hI1, hown1, hb1⟩
  have HO1 : Hid (w1.ownsRow w.heap.size 3 1 v1 (dealsL d).length ((dealsL d).map (Value.int .i64))) := hown1
  clear hI1 hown1
  go_wp2_with fail
  refine (HE.out w1 hb1).mono ?_
  rintro e w2 ⟨v2, rfl, hE2, hb2⟩
  have hb02 := hb1.trans (hb2.mono hb1.size)
  have HE2 : Hid (IsEdges w2 v2 (edgesTo d 36)) := hE2
  clear hE2
  go_wp2_with fail
  refine (order_own (edgesTo d 36) _ _ HE2.out (edges_gchk d 36)).mono ?_
  rintro e w3 ⟨hor, hb3⟩
  have hb03 := hb02.trans (hb3.mono hb02.size)
  rcases hor with ⟨o, v3, ho, rfl, hown3, hol⟩ | ⟨ho, rfl⟩
  · have HQ : Hid (serOrd d = some (weaveL o ((dealsL d).filter fun x => !inB o x))) := by show serOrd d = _; unfold serOrd; rw [ho]; rfl
    have HO3 : Hid (w3.ownsRow w2.heap.size 3 1 v3 o.length (o.map (Value.int .i64))) := hown3
    have HO13 : Hid (w3.ownsRow w.heap.size 3 1 v1 (dealsL d).length ((dealsL d).map (Value.int .i64))) := own_past (own_past HO1.out hb2) hb3
    have HG : Hid (∀ g, v1.ownBlock = some g → w.heap.size ≤ g ∧ g < w2.heap.size) := fun g hg => by
      have h1 := HO1.out.lt g hg
      have h2 := hb2.size
      omega
    have hsz3 := hb3.size
    have HB3 : Hid (Below w.heap.size w w3) := hb03
    obtain ⟨ad3, cap3, hv3⟩ : ∃ ad cap, v3 = .slice ad o.length cap := by
      obtain ⟨_, ⟨h1, h2⟩ | ⟨g, c, cur, h1, _⟩⟩ := hown3
      · exact ⟨none, 0, by rw [h1, h2]⟩
      · exact ⟨_, c, h1⟩
    obtain ⟨n3, hn3⟩ : ∃ n3, o.length = n3 := ⟨_, rfl⟩
    rw [hn3] at hv3 HO3 hol
    have HN3 : Hid (o.length = n3) := hn3
    subst hv3
    clear hown3 ho hb1 hb2 hb3 hb02 hb03 hn3
    go_wp2_with fail
    have HW : Hid (∃ W : World, W = w3.alloc (.cells #[.slice ad3 n3 cap3] 28)) := ⟨_, rfl⟩
    obtain ⟨W, hW⟩ := HW.out
    clear HW
    rw [← hW]
    have HB : Hid (∀ W', W.drew.grownBy W' v1.ownBlock → W'.cell? ⟨w3.heap.size, 0, none⟩ = some (.slice ad3 n3 cap3) ∧ IsInts W' (.slice ad3 n3 cap3) o) := fun W' hg => by
      refine ⟨hg.cell (show W.drew.cell? ⟨w3.heap.size, 0, none⟩ = some (.slice ad3 n3 cap3) by rw [hW]; simp) fun e => ?_, ?_⟩
      · have := HG.out _ e.symm; simp at this; omega
      · refine isInts_own (World.ownsRow.kept (w := W.drew) (by rw [hW]; exact (HO3.out.alloc _).drew) hg ?_) HN3.out
        cases hv : (Value.slice ad3 n3 cap3).ownBlock with
        | none => exact .inl rfl
        | some k =>
          refine .inr fun e => ?_
          have h1 := HG.out k e.symm
          have h2 := HO3.out.lt k hv
          omega
    have HOW : Hid (W.drew.ownsRow w.heap.size 3 1 v1 (dealsL d).length ((dealsL d).map (Value.int .i64))) := by rw [hW]; exact (HO13.out.alloc _).drew
    have HBW : Hid (Below w.heap.size w W.drew) := by rw [hW]; exact (HB3.out.alloc HB3.out.size _).drew
    have hcell : W.cell? ⟨w3.heap.size, 0, none⟩ = some (.slice ad3 n3 cap3) := by rw [hW]; simp
    clear hW HO3 HO13
    go_region_with (first | (go_at_call 26; refine (delete_own (dealsL d) o v1 (.slice ad3 n3 cap3) w3.heap.size w.heap.size _ W.drew rfl (by have := HDL.out; omega) (by have := HN3.out; omega) HOW.out HB.out).mono ?_; rintro e w' ⟨v', rfl, hrow', hgr'⟩; have hcell' := (HB.out w' hgr').1) | (go_at_call 25; refine (weave_any o _ _ _ _ (HB.out w' hgr').2 hrow' (by have := HN3.out; omega) (by have h1 := List.length_filter_le (fun x => !inB o x) (dealsL d); have := HDL.out; omega)).mono ?_; rintro e w'' ⟨v'', rfl, hI'', hb''⟩))
    all_goals
      go_wp2
      go_ret2
      have hbb : Below w.heap.size w w' := HBW.out.grown hgr' HBW.out.size (fun m hm => (HG.out m hm).1)
      exact ⟨.inl ⟨_, _, HQ.out, rfl, hI''⟩, hbb.trans (hb''.mono hbb.size)⟩
  · have HQ : Hid (serOrd d = none) := by show serOrd d = none; unfold serOrd; rw [ho]; rfl
    clear ho
    go_wp2_with fail
    go_ret2
    exact ⟨.inr ⟨HQ.out, rfl⟩, hb03.alloc hb03.size _⟩
end Go.Proofs.YtmjjiehnjghndaaGreat

namespace Go.Proofs.YtmjjiehnjghndaaGreat
open Go.RowKit

theorem top_four_at (w : World) : OpsAt (w.alloc (.cells #[.int .i64 2, .int .i64 2, .int .i64 1, .int .i64 2, .int .i64 3, .int .i64 0, .int .i64 1, .int .i64 1, .int .i64 1, .int .i64 1, .int .i64 3, .int .i64 0] 38)) w.heap.size 0 [(2, 2, 1), (2, 3, 0), (1, 1, 1), (1, 3, 0)] := by
  intro i hi
  match i, hi with
  | 0, _ => simp
  | 1, _ => simp
  | 2, _ => simp
  | 3, _ => simp
theorem top_fact (w : World) (b : Nat) (hb : b = w.heap.size) :
    Calls Tryz.prog 7 #[.slice (some ⟨b, 0, none⟩) 4 4] (w.alloc (.cells #[.int .i64 2, .int .i64 2, .int .i64 1, .int .i64 2, .int .i64 3, .int .i64 0, .int .i64 1, .int .i64 1, .int .i64 1, .int .i64 1, .int .i64 3, .int .i64 0] 38)) fun e w' => ∃ b1 o1 c1, e = .returned (.tuple #[.slice (some ⟨b1, o1, none⟩) 2 c1, .nilIface]) ∧ w'.cell? ⟨b1, o1, none⟩ = some (.int .i64 2) ∧ Below w.heap.size w w' := by
  subst hb
  have hs : serOrd (doneL [(2, 2, 1), (2, 3, 0), (1, 1, 1), (1, 3, 0)]) = some [2, 1] := by decide +kernel
  refine (ord_any [(2, 2, 1), (2, 3, 0), (1, 1, 1), (1, 3, 0)] (.slice (some ⟨w.heap.size, 0, none⟩) 4 4) _ ⟨some ⟨w.heap.size, 0, none⟩, w.heap.size, 0, 4, rfl, fun _ => rfl, fun h => (by cases h), .inl (by simp), top_four_at w⟩ (by decide +kernel)).mono ?_
  rintro e w' ⟨⟨o, v', ho, rfl, hI⟩ | ⟨hn, -⟩, hb'⟩
  · rw [hs] at ho
    obtain rfl := Option.some.inj ho
    obtain ⟨ad, b, off, cap, rfl, ha, _, _, hops⟩ := hI
    obtain rfl := ha (by simp)
    exact ⟨b, off, cap, rfl, by simpa using hops 0 (by simp), ((Below.refl _ w).alloc (Nat.le_refl _) _).trans (hb'.mono (by simp))⟩
  · rw [hs] at hn; cases hn
set_option maxHeartbeats 2000000 in
theorem one_any (w : World) : Calls Tryz.prog 4 #[] w fun e w' => e = .returned (.bool true) ∧ Below w.heap.size w w' := by
  go_enter Tryz.func4, Tryz.ntmps4
  go_wp2_with fail
  refine (top_fact _ _ (by simp)).mono ?_
  rintro e w1 ⟨b1, o1, c1, rfl, hc1, hb1⟩
  go_wp2_with fail
  go_ret
  exact ⟨rfl, hb1⟩
end Go.Proofs.YtmjjiehnjghndaaGreat
