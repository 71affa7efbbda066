/-
  PROVED HERE: lanelaw2.ValidSerial answers true, of any ops, over whatever keeps RunsC of chapter 11.
  Conditions: RunsC.
  PROVED HERE: lanelaw2.SnapSame answers true, of any ops, over whatever keeps RunsC of chapter 12 and TogC.
  Conditions: RunsC, TogC.
-/
import Derived.Test.YtccjognnehoodafMgbf
import Derived.Test.YtccjognnehoodafMgax
import Derived.Test.YtccjognnehoodafMgbd
namespace Go.Proofs.Ytccjognnehoodaf
open Go.RowKit

def four1 : List Op3 := [(1, 1, 1), (2, 2, 1), (2, 3, 0), (1, 3, 0)]
theorem four_at (W : World) : IsOps (W.alloc (.cells #[.int .i64 1, .int .i64 1, .int .i64 1, .int .i64 2, .int .i64 2, .int .i64 1, .int .i64 2, .int .i64 3, .int .i64 0, .int .i64 1, .int .i64 3, .int .i64 0] 24)) (.slice (some ⟨W.heap.size, 0, none⟩) 4 4) four1 := by
  refine ⟨some ⟨W.heap.size, 0, none⟩, W.heap.size, 0, 4, rfl, fun _ => rfl, fun h => (by cases h), .inl (by simp), opsAt_of fun j u hj => ?_⟩
  rw [Nat.zero_add]
  match j, hj with
  | 0, hj => simp [flat, four1] at hj; subst hj; simp
  | 1, hj => simp [flat, four1] at hj; subst hj; simp
  | 2, hj => simp [flat, four1] at hj; subst hj; simp
  | 3, hj => simp [flat, four1] at hj; subst hj; simp
  | 4, hj => simp [flat, four1] at hj; subst hj; simp
  | 5, hj => simp [flat, four1] at hj; subst hj; simp
  | 6, hj => simp [flat, four1] at hj; subst hj; simp
  | 7, hj => simp [flat, four1] at hj; subst hj; simp
  | 8, hj => simp [flat, four1] at hj; subst hj; simp
  | 9, hj => simp [flat, four1] at hj; subst hj; simp
  | 10, hj => simp [flat, four1] at hj; subst hj; simp
  | 11, hj => simp [flat, four1] at hj; subst hj; simp
  | k + 12, hj => simp [flat, four1] at hj
theorem four_done : (outU 1 okV false four1).1.1 = [2] ∧ (outU 1 okV false four1).2 = 0 := by decide
set_option maxHeartbeats 8000000 in
set_option maxRecDepth 100000 in
theorem vaser_any (hV : RunsC 13 1 okV false) (l : List Op3) (v : Value) (w : World) (hI : IsOps w v l) :
    Calls Try.prog 5 #[v] w fun e w' => e = .returned (.bool true) ∧ Below w.heap.size w w' := by
  have HIE : Hid (∀ W, Below w.heap.size w W → IsOps W v l) := fun W hW => hI.below hW (Nat.le_refl _)
  have HRUN : Hid (∀ W, Below w.heap.size w W → Calls Try.prog 13 #[v] W fun e w' => ∃ a1 a2 a3, e = .returned (.tuple #[.agg #[a1, a2, a3], errV (outU 1 okV false l).2]) ∧ IsInts w' a1 (outU 1 okV false l).1.1 ∧ IsOps w' a2 (outU 1 okV false l).1.2.1 ∧ IsInts w' a3 (outU 1 okV false l).1.2.2 ∧ Room a1 ∧ Below W.heap.size W w') := fun W hW => hV l v W (HIE.out W hW)
  have HONE : Hid (∀ W u, IsOps W u four1 → Calls Try.prog 13 #[u] W fun e w' => ∃ g o c a2 a3, e = .returned (.tuple #[.agg #[.slice (some ⟨g, o, none⟩) 1 c, a2, a3], .nilIface]) ∧ w'.cell? ⟨g, o, none⟩ = some (.int .i64 2) ∧ (∃ ad n c, a2 = .slice ad n c) ∧ (∃ ad n c, a3 = .slice ad n c) ∧ Below W.heap.size W w') := fun W u hu => by
    refine (hV four1 u W hu).mono ?_
    rintro e w' ⟨a1, a2, a3, he, hi1, hi2, hi3, -, hb⟩
    rw [four_done.2] at he
    rw [four_done.1] at hi1
    obtain ⟨x1, b1, o1, c1, rfl, h1, -, -, k1⟩ := hi1
    rw [h1 (by simp)] at he
    refine ⟨b1, o1, c1, a2, a3, he, by have := k1 0 (by simp); simpa using this, ?_, ?_, hb⟩
    · obtain ⟨ad, _, _, cap, hv, _⟩ := hi2; exact ⟨ad, _, cap, hv⟩
    · obtain ⟨ad, _, _, cap, hv, _⟩ := hi3; exact ⟨ad, _, cap, hv⟩
  have HST : Hid (∀ W W', Below w.heap.size w W → Below W.heap.size W W' → Below w.heap.size w W') := fun W W' h1 h2 => h1.trans (h2.mono h1.size)
  obtain ⟨ad, b, off, cap, hv, -⟩ := hI
  subst hv
  clear hV
  go_enter Try.func5, Try.ntmps5
  go_wp2_with fail
  have HB1 : Hid (Below w.heap.size w (w.alloc (.cells #[.int .i64 1, .int .i64 1, .int .i64 1, .int .i64 2, .int .i64 2, .int .i64 1, .int .i64 2, .int .i64 3, .int .i64 0, .int .i64 1, .int .i64 3, .int .i64 0] 24))) := (Below.refl _ w).alloc (Nat.le_refl _) _
  refine (HONE.out _ _ (four_at w)).mono ?_
  rintro e w2 ⟨g, o, c, a2, a3, rfl, k1, ⟨x2, y2, z2, rfl⟩, ⟨x3, y3, z3, rfl⟩, hb2⟩
  have HB2 := hid_s (HST.out _ _ HB1.out hb2)
  clear hb2 HB1
  go_upto_region 3 with (fail)
  obtain ⟨W2, hW2⟩ : ∃ W, W = w2.alloc (.cells #[.slice (some ⟨g, o, none⟩) 1 c, .slice x2 y2 z2, .slice x3 y3 z3] 46) := ⟨_, rfl⟩
  rw [← hW2]
  have hbn : Below w2.heap.size w2 W2 := by rw [hW2]; exact (Below.refl _ w2).alloc (Nat.le_refl _) _
  have HB3 := hid_s (HST.out _ _ HB2.out hbn)
  have p0 : W2.cell? ⟨w2.heap.size, 0, none⟩ = some (.slice (some ⟨g, o, none⟩) 1 c) := by rw [hW2]; simp
  have k3 : W2.cell? ⟨g, o, none⟩ = some (.int .i64 2) := (hbn.cell (p := ⟨g, o, none⟩) (World.block_lt_of_cell? w2 _ k1)).trans k1
  obtain ⟨P, hP⟩ : ∃ P, P = w2.heap.size := ⟨_, rfl⟩
  rw [← hP] at p0 ⊢
  clear hW2 hP hbn k1
  go_upto_region 5 with (fail)
  clear p0 k3
  by_cases hc : (chk l).2 = 0
  · have hop := ((chk_iff l).1 hc).2.1
    have hl40 := chk_len hc
    have hul := outU_len 1 okV false l
    have hrt := run_right 1 okV hc
    have hby := valid_by hc
    have hla : (lastL (runK 1 okV l l.length).of (runK 1 okV l l.length).done).length = 6 := lastL_len _ _
    rw [outU_ok hc] at HRUN hul
    have he0 : ordN false (runK 1 okV l l.length).done = (runK 1 okV l l.length).done := rfl
    rw [he0] at HRUN hul
    obtain ⟨ds, hds⟩ : ∃ d, (runK 1 okV l l.length).done = d := ⟨_, rfl⟩
    rw [hds] at HRUN hul hrt hby hla
    obtain ⟨se, hse⟩ : ∃ d, seenL (runK 1 okV l l.length).of ds = d := ⟨_, rfl⟩
    rw [hse] at HRUN hul hby
    obtain ⟨la, hlq⟩ : ∃ d, lastL (runK 1 okV l l.length).of ds = d := ⟨_, rfl⟩
    rw [hlq] at HRUN hul hby hla
    simp only at HRUN hul
    have HRUN2 : Hid (∀ W, Below w.heap.size w W → Calls Try.prog 13 #[.slice ad l.length cap] W fun e w' => ∃ a1 a2 a3, e = .returned (.tuple #[.agg #[a1, a2, a3], .nilIface]) ∧ IsInts w' a1 ds ∧ IsOps w' a2 se ∧ IsInts w' a3 la ∧ Room a1 ∧ Below W.heap.size W w') := HRUN.out
    have HRI : Hid (∀ W a1 a2 a3, Below w.heap.size w W → IsInts W a1 ds → IsOps W a2 se → IsInts W a3 la → Room a1 → Calls Try.prog 14 #[.slice ad l.length cap, .agg #[a1, a2, a3]] W fun e w' => e = .returned (.bool true) ∧ Below W.heap.size W w') := fun W a1 a2 a3 hW h1 h2 h3 hr =>
      right_any l _ a1 a2 a3 ds la W (HIE.out W hW) (by omega) h1 h3 (by obtain ⟨ad, _, _, cap, hv, _⟩ := h2; exact ⟨ad, _, cap, hv⟩) hr hul.1 hla hrt
    have HBY : Hid (∀ W a1 a2 a3, Below w.heap.size w W → IsInts W a1 ds → IsOps W a2 se → IsInts W a3 la → Calls Try.prog 15 #[.slice ad l.length cap, .agg #[a1, a2, a3], a1] W fun e w' => e = .returned (.bool true) ∧ Below W.heap.size W w') := fun W a1 a2 a3 hW h1 h2 h3 =>
      by_any l _ a1 a2 a3 a1 se la ds W (HIE.out W hW) (by obtain ⟨ad, _, _, cap, hv, _⟩ := h1; exact ⟨ad, _, cap, hv⟩) h2 h3 h1 hop hl40 hul.2.1 hul.1 hby
    clear hop hl40 hul hrt hby hla he0 hds hse hlq hc HRUN HONE
    go_wp2_with fail
    refine (HRUN2.out _ HB3.out).mono ?_
    rintro e w5 ⟨a1, a2, a3, rfl, h1, h2, h3, hro, hb5⟩
    have HB5 := hid_s (HST.out _ _ HB3.out hb5)
    have hbn : ∀ ob : Obj, Below w5.heap.size w5 (w5.alloc ob) := fun ob => (Below.refl _ w5).alloc (Nat.le_refl _) ob
    have H5 : Hid (∀ W, Below w5.heap.size w5 W → IsInts W a1 ds ∧ IsOps W a2 se ∧ IsInts W a3 la ∧ Below w.heap.size w W) := fun W hW => ⟨h1.below hW (Nat.le_refl _), h2.below hW (Nat.le_refl _), h3.below hW (Nat.le_refl _), HST.out _ _ HB5.out hW⟩
    obtain ⟨r1, s1, t1, rfl⟩ : ∃ ad n c, a1 = .slice ad n c := by obtain ⟨ad, _, _, cap, hv, _⟩ := h1; exact ⟨ad, _, cap, hv⟩
    obtain ⟨r2, s2, t2, rfl⟩ : ∃ ad n c, a2 = .slice ad n c := by obtain ⟨ad, _, _, cap, hv, _⟩ := h2; exact ⟨ad, _, cap, hv⟩
    obtain ⟨r3, s3, t3, rfl⟩ : ∃ ad n c, a3 = .slice ad n c := by obtain ⟨ad, _, _, cap, hv, _⟩ := h3; exact ⟨ad, _, cap, hv⟩
    have HRO := hid_s hro
    have HBN := hid_s hbn
    clear h1 h2 h3 hro hb5 hbn HRUN2
    go_upto_region 6 with (fail)
    obtain ⟨W6, hW6⟩ : ∃ W, W = w5.alloc (.cells #[.slice r1 s1 t1, .slice r2 s2 t2, .slice r3 s3 t3] 46) := ⟨_, rfl⟩
    rw [← hW6]
    have hb6 : Below w5.heap.size w5 W6 := by rw [hW6]; exact HBN.out _
    have q0 : W6.cell? ⟨w5.heap.size, 0, none⟩ = some (.slice r1 s1 t1) := by rw [hW6]; simp
    have q1 : W6.cell? ⟨w5.heap.size, 1, none⟩ = some (.slice r2 s2 t2) := by rw [hW6]; simp
    have q2 : W6.cell? ⟨w5.heap.size, 2, none⟩ = some (.slice r3 s3 t3) := by rw [hW6]; simp
    obtain ⟨Q, hQ⟩ : ∃ Q, Q = w5.heap.size := ⟨_, rfl⟩
    rw [← hQ] at q0 q1 q2 ⊢
    have H6 := hid_s hb6
    clear hW6 hQ hb6
    go_wp2_with fail
    obtain ⟨i1, i2, i3, i4⟩ := H5.out W6 H6.out
    refine (HRI.out W6 _ _ _ i4 i1 i2 i3 HRO.out).mono ?_
    rintro e w7 ⟨rfl, hb7⟩
    have hq : Q < W6.heap.size := World.block_lt_of_cell? W6 _ q0
    have m0 := (hb7.cell (p := ⟨Q, 0, none⟩) hq).trans q0
    have m1 := (hb7.cell (p := ⟨Q, 1, none⟩) hq).trans q1
    have m2 := (hb7.cell (p := ⟨Q, 2, none⟩) hq).trans q2
    have H7 : Hid (Below w5.heap.size w5 w7) := H6.out.trans (hb7.mono H6.out.size)
    clear hb7 q0 q1 q2 i1 i2 i3 i4
    go_wp2_with fail
    obtain ⟨i1, i2, i3, i4⟩ := H5.out w7 H7.out
    refine (HBY.out w7 _ _ _ i4 i1 i2 i3).mono ?_
    rintro e w8 ⟨rfl, hb8⟩
    have HB8 := hid_s (HST.out _ _ i4 hb8)
    clear hb8 i1 i2 i3 i4
    go_wp2_with fail
    go_ret
    exact ⟨rfl, HB8.out⟩
  · have hev := errV_ne hc
    rw [outU_bad hc] at HRUN
    simp only at HRUN
    rw [hev] at HRUN
    obtain ⟨ce, hce⟩ : ∃ ce, (chk l).2 = ce := ⟨_, rfl⟩
    rw [hce] at HRUN
    clear hev hc hce HONE
    go_wp2_with fail
    refine (HRUN.out _ HB3.out).mono ?_
    rintro e w5 ⟨a1, a2, a3, rfl, h1, h2, h3, hro, hb5⟩
    obtain ⟨r1, s1, t1, rfl⟩ : ∃ ad n c, a1 = .slice ad n c := by obtain ⟨ad, _, _, cap, hv, _⟩ := h1; exact ⟨ad, _, cap, hv⟩
    obtain ⟨r2, s2, t2, rfl⟩ : ∃ ad n c, a2 = .slice ad n c := by obtain ⟨ad, _, _, cap, hv, _⟩ := h2; exact ⟨ad, _, cap, hv⟩
    obtain ⟨r3, s3, t3, rfl⟩ : ∃ ad n c, a3 = .slice ad n c := by obtain ⟨ad, _, _, cap, hv, _⟩ := h3; exact ⟨ad, _, cap, hv⟩
    have HB5 := hid_s (HST.out _ _ HB3.out hb5)
    have HB6 : Hid (∀ ob : Obj, Below w.heap.size w (w5.alloc ob)) := fun ob => HST.out _ _ HB5.out ((Below.refl _ w5).alloc (Nat.le_refl _) ob)
    clear h1 h2 h3 hro hb5
    go_wp2_with fail
    go_ret
    exact ⟨rfl, HB6.out _⟩
end Go.Proofs.Ytccjognnehoodaf

namespace Go.Proofs.Ytccjognnehoodaf
open Go.RowKit

def five1 : List Op3 := [(1, 1, 1), (2, 2, 1), (2, 3, 0), (1, 1, 1), (1, 3, 0)]
theorem five_at (W : World) : IsOps (W.alloc (.cells #[.int .i64 1, .int .i64 1, .int .i64 1, .int .i64 2, .int .i64 2, .int .i64 1, .int .i64 2, .int .i64 3, .int .i64 0, .int .i64 1, .int .i64 1, .int .i64 1, .int .i64 1, .int .i64 3, .int .i64 0] 24)) (.slice (some ⟨W.heap.size, 0, none⟩) 5 5) five1 := by
  refine ⟨_, W.heap.size, 0, 5, rfl, fun _ => rfl, fun h => (by cases h), .inl (by simp), fun i hi => ?_⟩
  have hi' : i < 5 := hi
  rcases i with _ | _ | _ | _ | _ | i
  · exact ⟨by simp [five1], by simp [five1], by simp [five1]⟩
  · exact ⟨by simp [five1], by simp [five1], by simp [five1]⟩
  · exact ⟨by simp [five1], by simp [five1], by simp [five1]⟩
  · exact ⟨by simp [five1], by simp [five1], by simp [five1]⟩
  · exact ⟨by simp [five1], by simp [five1], by simp [five1]⟩
  · omega
theorem sn_five : (outU 2 okS false five1).1.1 = [2, 1] ∧ (outU 2 okS false five1).1.2.1 = [(1, 1, 0), (1, 1, 0)] ∧ (outU 2 okS false five1).2 = 0 := by decide
/-- What the loops keep: an outcome in its box, its lists. -/
structure SaSt (w W : World) (Q : Nat) (a1 a2 a3 v8 : Value) (ds : List Int) (se : List Op3) (te : List Edge2) : Prop where
  old : Below w.heap.size w W
  q0 : W.cell? ⟨Q, 0, none⟩ = some a1
  q1 : W.cell? ⟨Q, 1, none⟩ = some a2
  h1 : IsInts W a1 ds
  h2 : IsOps W a2 se
  he : IsEdges W v8 te
theorem SaSt.later {w W W' : World} {Q : Nat} {a1 a2 a3 v8 : Value} {ds : List Int} {se : List Op3} {te : List Edge2} (h : SaSt w W Q a1 a2 a3 v8 ds se te) (hb : Below W.heap.size W W') : SaSt w W' Q a1 a2 a3 v8 ds se te :=
  ⟨h.old.trans (hb.mono h.old.size), (hb.cell (p := ⟨Q, 0, none⟩) (World.block_lt_of_cell? W _ h.q0)).trans h.q0, (hb.cell (p := ⟨Q, 1, none⟩) (World.block_lt_of_cell? W _ h.q1)).trans h.q1, h.h1.below hb (Nat.le_refl _), h.h2.below hb (Nat.le_refl _), h.he.below hb (Nat.le_refl _)⟩
set_option maxHeartbeats 32000000 in
set_option maxRecDepth 1000000 in
theorem snsame_any (hV : RunsC 16 2 okS false) (hT : TogC 17) (l : List Op3) (v : Value) (w : World) (hI : IsOps w v l) :
    Calls Try.prog 6 #[v] w fun e w' => e = .returned (.bool true) ∧ Below w.heap.size w w' := by
  have HIE : Hid (∀ W, Below w.heap.size w W → IsOps W v l) := fun W hW => hI.below hW (Nat.le_refl _)
  have HRUN : Hid (∀ W, Below w.heap.size w W → Calls Try.prog 16 #[v] W fun e w' => ∃ a1 a2 a3, e = .returned (.tuple #[.agg #[a1, a2, a3], errV (outU 2 okS false l).2]) ∧ IsInts w' a1 (outU 2 okS false l).1.1 ∧ IsOps w' a2 (outU 2 okS false l).1.2.1 ∧ IsInts w' a3 (outU 2 okS false l).1.2.2 ∧ Room a1 ∧ Below W.heap.size W w') := fun W hW => hV l v W (HIE.out W hW)
  have HTOG : Hid (∀ W, Below w.heap.size w W → Calls Try.prog 17 #[v] W fun e w' => ∃ v', e = .returned (.tuple #[v', errV (chk l).2]) ∧ IsEdges w' v' (if (chk l).2 ≠ 0 then [] else togL (runK 2 okS l l.length).of (runK 2 okS l l.length).done) ∧ Below W.heap.size W w') := fun W hW => hT l v W (HIE.out W hW)
  have HONE : Hid (∀ W u, IsOps W u five1 → Calls Try.prog 16 #[u] W fun e w' => ∃ g o c g2 o2 c2 a3, e = .returned (.tuple #[.agg #[.slice (some ⟨g, o, none⟩) 2 c, .slice (some ⟨g2, o2, none⟩) 2 c2, a3], .nilIface]) ∧ w'.cell? ⟨g2, o2 + 3 + 2, none⟩ = some (.int .i64 0) ∧ (∃ ad n c, a3 = .slice ad n c) ∧ Below W.heap.size W w') := fun W u hu => by
    refine (hV five1 u W hu).mono ?_
    rintro e w' ⟨a1, a2, a3, he, hi1, hi2, hi3, -, hb⟩
    rw [sn_five.2.2] at he
    rw [sn_five.1] at hi1
    rw [sn_five.2.1] at hi2
    obtain ⟨x1, b1, o1, c1, rfl, h1, -, -, k1⟩ := hi1
    obtain ⟨x2, b2, o2, c2, rfl, h2, -, -, k2⟩ := hi2
    rw [h1 (by simp), h2 (by simp)] at he
    refine ⟨b1, o1, c1, b2, o2, c2, a3, he, by have := (k2 1 (by simp)).2.2; simpa [opAt] using this, ?_, hb⟩
    obtain ⟨ad, _, _, cap, hv, _⟩ := hi3; exact ⟨ad, _, cap, hv⟩
  have HST : Hid (∀ W W', Below w.heap.size w W → Below W.heap.size W W' → Below w.heap.size w W') := fun W W' h1 h2 => h1.trans (h2.mono h1.size)
  obtain ⟨ad, b, off, cap, hv, -⟩ := hI
  subst hv
  clear hV hT
  go_enter Try.func6, Try.ntmps6
  go_wp2_with fail
  have HB1 : Hid (Below w.heap.size w (w.alloc (.cells #[.int .i64 1, .int .i64 1, .int .i64 1, .int .i64 2, .int .i64 2, .int .i64 1, .int .i64 2, .int .i64 3, .int .i64 0, .int .i64 1, .int .i64 1, .int .i64 1, .int .i64 1, .int .i64 3, .int .i64 0] 24))) := (Below.refl _ w).alloc (Nat.le_refl _) _
  refine (HONE.out _ _ (five_at w)).mono ?_
  rintro e w2 ⟨g, o, c, g2, o2, c2, a3, rfl, k1, ⟨x3, y3, z3, rfl⟩, hb2⟩
  have HB2 := hid_s (HST.out _ _ HB1.out hb2)
  clear hb2 HB1
  go_upto_region 3 with (fail)
  obtain ⟨W2, hW2⟩ : ∃ W, W = w2.alloc (.cells #[.slice (some ⟨g, o, none⟩) 2 c, .slice (some ⟨g2, o2, none⟩) 2 c2, .slice x3 y3 z3] 46) := ⟨_, rfl⟩
  rw [← hW2]
  have hbn : Below w2.heap.size w2 W2 := by rw [hW2]; exact (Below.refl _ w2).alloc (Nat.le_refl _) _
  have HB3 := hid_s (HST.out _ _ HB2.out hbn)
  have p0 : W2.cell? ⟨w2.heap.size, 0, none⟩ = some (.slice (some ⟨g, o, none⟩) 2 c) := by rw [hW2]; simp
  have p1 : W2.cell? ⟨w2.heap.size, 1, none⟩ = some (.slice (some ⟨g2, o2, none⟩) 2 c2) := by rw [hW2]; simp
  have k3 : W2.cell? ⟨g2, o2 + 3 + 2, none⟩ = some (.int .i64 0) := (hbn.cell (p := ⟨g2, o2 + 3 + 2, none⟩) (World.block_lt_of_cell? w2 _ k1)).trans k1
  obtain ⟨P, hP⟩ : ∃ P, P = w2.heap.size := ⟨_, rfl⟩
  rw [← hP] at p0 p1 ⊢
  clear hW2 hP hbn k1
  go_upto_region 5 with (fail)
  clear p0 p1 k3
  by_cases hc : (chk l).2 = 0
  · have hl40 := chk_len hc
    have hul := outU_len 2 okS false l
    have hrt := run_right 2 okS hc
    have hfr := sn_from hc
    have hag := sn_again hc
    have htw := sn_two hc
    have hla : (lastL (runK 2 okS l l.length).of (runK 2 okS l l.length).done).length = 6 := lastL_len _ _
    have hev : errV (chk l).2 = .nilIface := by rw [hc]; exact if_pos rfl
    rw [outU_ok hc] at HRUN hul
    rw [hev, if_neg (by simpa using hc)] at HTOG
    have he0 : ordN false (runK 2 okS l l.length).done = (runK 2 okS l l.length).done := rfl
    rw [he0] at HRUN hul
    obtain ⟨te, hte⟩ : ∃ t, togL (runK 2 okS l l.length).of (runK 2 okS l l.length).done = t := ⟨_, rfl⟩
    have hte36 : te.length ≤ 36 := by rw [← hte]; exact allE_len _
    rw [hte] at HTOG htw
    obtain ⟨ds, hds⟩ : ∃ d, (runK 2 okS l l.length).done = d := ⟨_, rfl⟩
    rw [hds] at HRUN hul hrt hla hfr hag
    obtain ⟨se, hse⟩ : ∃ d, seenL (runK 2 okS l l.length).of ds = d := ⟨_, rfl⟩
    rw [hse] at HRUN hul hfr hag
    obtain ⟨la, hlq⟩ : ∃ d, lastL (runK 2 okS l l.length).of ds = d := ⟨_, rfl⟩
    rw [hlq] at HRUN hul hla
    simp only at HRUN hul
    have HRUN2 : Hid (∀ W, Below w.heap.size w W → Calls Try.prog 16 #[.slice ad l.length cap] W fun e w' => ∃ a1 a2 a3, e = .returned (.tuple #[.agg #[a1, a2, a3], .nilIface]) ∧ IsInts w' a1 ds ∧ IsOps w' a2 se ∧ IsInts w' a3 la ∧ Room a1 ∧ Below W.heap.size W w') := HRUN.out
    have HRI : Hid (∀ W a1 a2 a3, Below w.heap.size w W → IsInts W a1 ds → IsOps W a2 se → IsInts W a3 la → Room a1 → Calls Try.prog 14 #[.slice ad l.length cap, .agg #[a1, a2, a3]] W fun e w' => e = .returned (.bool true) ∧ Below W.heap.size W w') := fun W a1 a2 a3 hW h1 h2 h3 hr =>
      right_any l _ a1 a2 a3 ds la W (HIE.out W hW) (by omega) h1 h3 (by obtain ⟨ad, _, _, cap, hv, _⟩ := h2; exact ⟨ad, _, cap, hv⟩) hr hul.1 hla hrt
    have HD6 : Hid (ds.length ≤ 6) := hul.1
    have HS240 : Hid (se.length ≤ 240) := hul.2.1
    have HFR : Hid (∀ e ∈ se, e.2.2 = 0 ∨ e.2.2 ∈ ds) := hfr
    have HAG : Hid (∀ k i, k < i → i < se.length → (opAt se k).1 = (opAt se i).1 → (opAt se k).2.1 = (opAt se i).2.1 → (opAt se i).2.2 ≠ (opAt se i).1 → (opAt se k).2.2 = (opAt se i).2.2) := fun k i hki hi => by
      have h9 := List.pairwise_iff_getElem.1 hag k i (by omega) hi hki
      rw [opAt_at (by omega), opAt_at hi]
      exact h9
    have HTW : Hid (∀ n a b', n < te.length → a < l.length → b' < l.length → (opAt l a).1 = (te.getD n (0, 0)).1 → (opAt l b').1 = (te.getD n (0, 0)).2 → (opAt l a).2.1 = 2 → (opAt l b').2.1 = 2 → (opAt l a).2.2 ≠ (opAt l b').2.2) := fun n a b' hn ha hb => by
      refine htw _ ?_ _ (opAt_mem ha) _ (opAt_mem hb)
      rw [List.getD_eq_getElem?_getD, List.getElem?_eq_getElem hn]
      exact List.getElem_mem _
    have HL40 : Hid (l.length ≤ 40) := hl40
    clear hl40 hul hrt hla he0 hds hse hlq hc HRUN HONE hfr hag htw hev hte
    go_wp2_with fail
    refine (HRUN2.out _ HB3.out).mono ?_
    rintro e w5 ⟨a1, a2, a3, rfl, h1, h2, h3, hro, hb5⟩
    have HB5 := hid_s (HST.out _ _ HB3.out hb5)
    have H5 : Hid (∀ W, Below w5.heap.size w5 W → IsInts W a1 ds ∧ IsOps W a2 se ∧ IsInts W a3 la ∧ Below w.heap.size w W) := fun W hW => ⟨h1.below hW (Nat.le_refl _), h2.below hW (Nat.le_refl _), h3.below hW (Nat.le_refl _), HST.out _ _ HB5.out hW⟩
    obtain ⟨r1, s1, t1, rfl⟩ : ∃ ad n c, a1 = .slice ad n c := by obtain ⟨ad, _, _, cap, hv, _⟩ := h1; exact ⟨ad, _, cap, hv⟩
    obtain ⟨r2, t2, rfl⟩ : ∃ ad c, a2 = .slice ad se.length c := by obtain ⟨ad, _, _, cap, hv, _⟩ := h2; exact ⟨ad, cap, hv⟩
    obtain ⟨r3, s3, t3, rfl⟩ : ∃ ad n c, a3 = .slice ad n c := by obtain ⟨ad, _, _, cap, hv, _⟩ := h3; exact ⟨ad, _, cap, hv⟩
    have HRO := hid_s hro
    clear h1 h2 h3 hro hb5 HRUN2
    obtain ⟨ns, hns⟩ : ∃ n, se.length = n := ⟨_, rfl⟩
    rw [hns] at H5 HS240 HAG ⊢
    have HNS := hid_s hns
    have hns240 : ns ≤ 240 := HS240.out
    clear hns
    go_upto_region 6 with (fail)
    obtain ⟨W6, hW6⟩ : ∃ W, W = w5.alloc (.cells #[.slice r1 s1 t1, .slice r2 ns t2, .slice r3 s3 t3] 46) := ⟨_, rfl⟩
    rw [← hW6]
    have hb6 : Below w5.heap.size w5 W6 := by rw [hW6]; exact (Below.refl _ w5).alloc (Nat.le_refl _) _
    have q0 : W6.cell? ⟨w5.heap.size, 0, none⟩ = some (.slice r1 s1 t1) := by rw [hW6]; simp
    have q1 : W6.cell? ⟨w5.heap.size, 1, none⟩ = some (.slice r2 ns t2) := by rw [hW6]; simp
    have q2 : W6.cell? ⟨w5.heap.size, 2, none⟩ = some (.slice r3 s3 t3) := by rw [hW6]; simp
    obtain ⟨Q, hQ⟩ : ∃ Q, Q = w5.heap.size := ⟨_, rfl⟩
    rw [← hQ] at q0 q1 q2 ⊢
    have H6 := hid_s hb6
    have hq : Q < W6.heap.size := World.block_lt_of_cell? W6 _ q0
    clear hW6 hQ hb6
    go_wp2_with fail
    refine (HTOG.out W6 (H5.out W6 H6.out).2.2.2).mono ?_
    rintro e w7 ⟨v8, rfl, hed, hb7⟩
    have H7 : Hid (Below w5.heap.size w5 w7) := H6.out.trans (hb7.mono H6.out.size)
    have m0 := (hb7.cell (p := ⟨Q, 0, none⟩) hq).trans q0
    have m1 := (hb7.cell (p := ⟨Q, 1, none⟩) hq).trans q1
    have m2 := (hb7.cell (p := ⟨Q, 2, none⟩) hq).trans q2
    obtain ⟨r8, t8, rfl⟩ : ∃ ad c, v8 = .slice ad te.length c := by obtain ⟨ad, _, _, cap, hv, _⟩ := hed; exact ⟨ad, cap, hv⟩
    have HED := hid_s hed
    clear hb7 hed q0 q1 q2 hq
    go_wp2_with fail
    obtain ⟨i1, i2, i3, i4⟩ := H5.out w7 H7.out
    refine (HRI.out w7 _ _ _ i4 i1 i2 i3 HRO.out).mono ?_
    rintro e w8 ⟨rfl, hb8⟩
    have HS8 : Hid (SaSt w w8 Q (.slice r1 s1 t1) (.slice r2 ns t2) (.slice r3 s3 t3) (.slice r8 te.length t8) ds se te) := SaSt.later ⟨i4, m0, m1, i1, i2, HED.out⟩ hb8
    clear hb8 i1 i2 i3 i4 m0 m1 m2 HED
    go_wp2_with fail
    go_loopw [11] (fun v11 wr => ∃ i : Nat, i ≤ ns ∧ v11 = .int .i64 i ∧ SaSt w wr Q (.slice r1 s1 t1) (.slice r2 ns t2) (.slice r3 s3 t3) (.slice r8 te.length t8) ds se te) (fun v11 _ => ns - (intOf v11).toNat)
    case atStart => exact ⟨0, Nat.zero_le _, rfl, HS8.out⟩
    case round =>
      obtain ⟨i, hi, rfl, hst⟩ := hrel
      have HSW := hid_s hst
      have q0 := hst.q0
      have q1 := hst.q1
      clear hst HS8
      by_cases hlt : i < ns
      · have hlt' : (i : Int) < (ns : Int) := by omega
        have hi0 : (0 : Int) ≤ (i : Int) := by omega
        have hin : ¬ (i : Int) < 0 := by omega
        obtain ⟨r2', b2, o2b, t2', e2, ha2, -, hbB2, hc2⟩ := HSW.out.h2
        injection e2 with e2a e2b e2c
        have hadr : r2 = some ⟨b2, o2b, none⟩ := by rw [e2a]; exact ha2 (by have := HNS.out; omega)
        have hb2w : b2 < wr.heap.size := by
          rcases hbB2 with h | h
          · exact h
          · have := HNS.out; rw [h] at this; simp at this; omega
        have HSE : Hid (∀ k, k < ns → ∀ W, Below wr.heap.size wr W → W.cell? ⟨b2, o2b + k * 3, none⟩ = some (.int .i64 (opAt se k).1) ∧ W.cell? ⟨b2, o2b + k * 3 + 1, none⟩ = some (.int .i64 (opAt se k).2.1) ∧ W.cell? ⟨b2, o2b + k * 3 + 2, none⟩ = some (.int .i64 (opAt se k).2.2)) := fun k hk W hW => by
          obtain ⟨g1, g2, g3⟩ := hc2 k (by have := HNS.out; omega)
          exact ⟨(hW.cell (p := ⟨b2, o2b + k * 3, none⟩) hb2w).trans g1, (hW.cell (p := ⟨b2, o2b + k * 3 + 1, none⟩) hb2w).trans g2, (hW.cell (p := ⟨b2, o2b + k * 3 + 2, none⟩) hb2w).trans g3⟩
        obtain ⟨c0, c1, c2x⟩ := HSE.out i hlt wr (Below.refl _ _)
        obtain ⟨⟨xt, xi, xf⟩, hx⟩ : ∃ x : Op3, opAt se i = x := ⟨_, rfl⟩
        have HXF : Hid (xf = 0 ∨ xf ∈ ds) := by
          have h9 := HFR.out _ (opAt_mem (show i < se.length by have := HNS.out; omega))
          rw [hx] at h9
          exact h9
        have HAX : Hid (∀ k, k < i → (opAt se k).1 = xt → (opAt se k).2.1 = xi → xf ≠ xt → (opAt se k).2.2 = xf) := fun k hk => by
          have h9 := HAG.out k i hk hlt
          rw [hx] at h9
          exact h9
        rw [hx] at c0 c1 c2x
        simp only at c0 c1 c2x
        subst hadr
        clear e2a e2b e2c ha2 hbB2 hc2 hx
        go_upto_region 16 with (fail)
        obtain ⟨W9, hW9⟩ : ∃ W, W = wr.alloc (.cells #[.int .i64 xt, .int .i64 xi, .int .i64 xf] 52) := ⟨_, rfl⟩
        rw [← hW9]
        have hb9 : Below wr.heap.size wr W9 := by rw [hW9]; exact (Below.refl _ wr).alloc (Nat.le_refl _) _
        have HX9 : Hid (SaSt w W9 Q (.slice r1 s1 t1) (.slice (some ⟨b2, o2b, none⟩) ns t2) (.slice r3 s3 t3) (.slice r8 te.length t8) ds se te ∧ Below wr.heap.size wr W9) := ⟨HSW.out.later hb9, hb9⟩
        have x0 : W9.cell? ⟨wr.heap.size, 0, none⟩ = some (.int .i64 xt) := by rw [hW9]; simp
        have x1 : W9.cell? ⟨wr.heap.size, 1, none⟩ = some (.int .i64 xi) := by rw [hW9]; simp
        have x2 : W9.cell? ⟨wr.heap.size, 2, none⟩ = some (.int .i64 xf) := by rw [hW9]; simp
        obtain ⟨X, hX⟩ : ∃ X, X = wr.heap.size := ⟨_, rfl⟩
        rw [← hX] at x0 x1 x2 ⊢
        clear hW9 hb9 q0 q1 c0 c1 c2x hX
        have q0 := HX9.out.1.q0
        have q1 := HX9.out.1.q1
        have HIN : Hid (xf ∈ ds → Calls Try.prog 18 #[.slice r1 s1 t1, .int .i64 xf] W9 fun e w' => e = .returned (.bool true) ∧ w' = W9) := fun hm => by
          have h9 := in_any ds (.slice r1 s1 t1) xf W9 HX9.out.1.h1 (by have := HD6.out; omega)
          rw [show inB ds xf = true from inB_iff.2 hm] at h9
          exact h9
        go_cut [100] from 90 to 100 (fun v100 W1 => v100 = .bool false ∧ W1 = W9)
        case first =>
          by_cases hf0 : xf = 0
          · subst hf0
            go_wp2_with fail
            go_meet
            case rel => exact ⟨rfl, rfl⟩
          · have hf0' : (xf != 0) = true := by simpa using hf0
            have HIM := hid_s (HIN.out (HXF.out.elim (fun h => absurd h hf0) id))
            clear hf0
            go_wp2_with fail
            refine HIM.out.mono ?_
            rintro e w10 ⟨rfl, hw10⟩
            rw [hw10]
            clear hw10
            go_wp2_with fail
            go_meet
            case rel => exact ⟨rfl, rfl⟩
        case rest =>
          obtain ⟨rfl, hwc⟩ := hcut
          rw [hwc]
          clear hwc
          go_wp2_with fail
          go_loopw [13] (fun v13 wk => ∃ k : Nat, k ≤ i ∧ v13 = .int .i64 k ∧ Below W9.heap.size W9 wk) (fun v13 _ => i - (intOf v13).toNat)
          case atStart => exact ⟨0, Nat.zero_le _, rfl, Below.refl _ _⟩
          case round =>
            obtain ⟨k, hk, rfl, hbk⟩ := hrel
            obtain ⟨WK, hWK⟩ : ∃ W : World, W = wr := ⟨_, rfl⟩
            have HBK := hid_s hbk
            have HSK := hid_s (HX9.out.1.later hbk)
            have hXl := World.block_lt_of_cell? W9 _ x0
            have y0 := (hbk.cell (p := ⟨X, 0, none⟩) hXl).trans x0
            have y1 := (hbk.cell (p := ⟨X, 1, none⟩) hXl).trans x1
            have y2 := (hbk.cell (p := ⟨X, 2, none⟩) hXl).trans x2
            have p1 := HSK.out.q1
            clear hbk hXl
            by_cases hltk : k < i
            · have hltk' : (k : Int) < (i : Int) := by omega
              have hk0 : (0 : Int) ≤ (k : Int) := by omega
              have hkn : ¬ (k : Int) < 0 := by omega
              have hkns : (k : Int) < (ns : Int) := by omega
              obtain ⟨c0, c1, c2y⟩ := HSE.out k (by omega) wr (HX9.out.2.trans (HBK.out.mono HX9.out.2.size))
              have HAK := hid_s (HAX.out k hltk)
              obtain ⟨⟨yt, yi, yf⟩, hy⟩ : ∃ y : Op3, opAt se k = y := ⟨_, rfl⟩
              rw [hy] at c0 c1 c2y HAK
              simp only at c0 c1 c2y HAK
              clear hy hWK
              have HWN : Hid (∀ ob : Obj, Below W9.heap.size W9 (wr.alloc ob)) := fun ob => HBK.out.alloc HBK.out.size ob
              have hXw := World.block_lt_of_cell? wr _ y0
              simp only at hXw
              by_cases e1 : yt = xt
              · have e1' : (yt == xt) = true := by simpa using e1
                by_cases e2 : yi = xi
                · have e2' : (yi == xi) = true := by simpa using e2
                  by_cases e3 : xf = xt
                  · have e3' : (xf != xt) = false := by simpa using e3
                    clear e1 e2 e3 HAK
                    go_wp2_with fail
                    go_roundw
                    case rel => exact ⟨k + 1, by omega, by go_num, HWN.out _⟩
                    case measure => simp [intOf]; omega
                  · have e3' : (xf != xt) = true := by simpa using e3
                    have e4' : (yf != xf) = false := by simpa using HAK.out e1 e2 e3
                    clear e1 e2 e3 HAK
                    go_wp2_with fail
                    go_roundw
                    case rel => exact ⟨k + 1, by omega, by go_num, HWN.out _⟩
                    case measure => simp [intOf]; omega
                · have e2' : (yi == xi) = false := by simpa using e2
                  clear e1 e2 HAK
                  go_wp2_with fail
                  go_roundw
                  case rel => exact ⟨k + 1, by omega, by go_num, HWN.out _⟩
                  case measure => simp [intOf]; omega
              · have e1' : (yt == xt) = false := by simpa using e1
                clear e1 HAK
                go_wp2_with fail
                go_roundw
                case rel => exact ⟨k + 1, by omega, by go_num, HWN.out _⟩
                case measure => simp [intOf]; omega
            · have hltk' : ¬ (k : Int) < (i : Int) := by omega
              clear hWK y0 y1 y2 p1
              go_wp2_with fail
              go_roundw
              case rel => exact ⟨i + 1, by omega, by go_num, HSK.out⟩
              case measure => simp [intOf]; omega
      · have hlt' : ¬ (i : Int) < (ns : Int) := by omega
        clear hi hlt
        obtain ⟨WA, hWA⟩ : ∃ W : World, W = wr := ⟨_, rfl⟩
        subst hWA
        obtain ⟨r8', b8, o8, t8', e8, ha8, -, hbB8, hc8⟩ := HSW.out.he
        injection e8 with e8a e8b e8c
        have HEE : Hid (∀ n, n < te.length → r8 = some ⟨b8, o8, none⟩ ∧ ∀ W, Below WA.heap.size WA W → W.cell? ⟨b8, o8 + n * 2, none⟩ = some (.int .i64 (te.getD n (0, 0)).1) ∧ W.cell? ⟨b8, o8 + n * 2 + 1, none⟩ = some (.int .i64 (te.getD n (0, 0)).2)) := fun n hn => by
          have hb : b8 < WA.heap.size := by
            rcases hbB8 with h | h
            · exact h
            · rw [h] at hn; simp at hn
          refine ⟨by rw [e8a]; exact ha8 (by omega), fun W hW => ?_⟩
          obtain ⟨g1, g2⟩ := hc8 n hn
          exact ⟨(hW.cell (p := ⟨b8, o8 + n * 2, none⟩) hb).trans g1, (hW.cell (p := ⟨b8, o8 + n * 2 + 1, none⟩) hb).trans g2⟩
        have HBA : Hid (Below w.heap.size w WA) := HSW.out.old
        obtain ⟨ad', b', off', cap', eI, haI, -, hbBI, hcI⟩ := HIE.out WA HSW.out.old
        injection eI with eIa eIb eIc
        have HLL : Hid (∀ a, a < l.length → ad = some ⟨b', off', none⟩ ∧ ∀ W, Below WA.heap.size WA W → W.cell? ⟨b', off' + a * 3, none⟩ = some (.int .i64 (opAt l a).1) ∧ W.cell? ⟨b', off' + a * 3 + 1, none⟩ = some (.int .i64 (opAt l a).2.1) ∧ W.cell? ⟨b', off' + a * 3 + 2, none⟩ = some (.int .i64 (opAt l a).2.2)) := fun a ha => by
          have hb : b' < WA.heap.size := by
            rcases hbBI with h | h
            · exact h
            · rw [h] at ha; simp at ha
          refine ⟨by rw [eIa]; exact haI (by omega), fun W hW => ?_⟩
          obtain ⟨g1, g2, g3⟩ := hcI a ha
          exact ⟨(hW.cell (p := ⟨b', off' + a * 3, none⟩) hb).trans g1, (hW.cell (p := ⟨b', off' + a * 3 + 1, none⟩) hb).trans g2, (hW.cell (p := ⟨b', off' + a * 3 + 2, none⟩) hb).trans g3⟩
        clear e8a e8b e8c ha8 hbB8 hc8 eIa eIb eIc haI hbBI hcI
        have hl40 : l.length ≤ 40 := HL40.out
        go_wp2_with fail
        go_loopw [15] (fun v15 wk => ∃ n : Nat, n ≤ te.length ∧ v15 = .int .i64 n ∧ Below WA.heap.size WA wk) (fun v15 _ => te.length - (intOf v15).toNat)
        case atStart => exact ⟨0, Nat.zero_le _, rfl, Below.refl _ _⟩
        case round =>
          obtain ⟨n, hn, rfl, hbk⟩ := hrel
          have HBK := hid_s hbk
          clear hbk
          by_cases hltn : n < te.length
          · have hltn' : (n : Int) < (te.length : Int) := by omega
            have hn0 : (0 : Int) ≤ (n : Int) := by omega
            have hnn : ¬ (n : Int) < 0 := by omega
            obtain ⟨hr8, hed⟩ := HEE.out n hltn
            subst hr8
            have HET := hid_s hed
            have HTN := hid_s (HTW.out n)
            obtain ⟨⟨ea, eb⟩, hee⟩ : ∃ e : Edge2, te.getD n (0, 0) = e := ⟨_, rfl⟩
            rw [hee] at HET HTN
            simp only at HET HTN
            clear hed hee
            go_wp2_with fail
            go_loopw [16] (fun v16 wk => ∃ a : Nat, a ≤ l.length ∧ v16 = .int .i64 a ∧ Below WA.heap.size WA wk) (fun v16 _ => l.length - (intOf v16).toNat)
            case atStart => exact ⟨0, Nat.zero_le _, rfl, HBK.out⟩
            case round =>
              obtain ⟨a, ha, rfl, hbk⟩ := hrel
              have HBK2 := hid_s hbk
              clear hbk HBK
              by_cases hlta : a < l.length
              · have hlta' : (a : Int) < (l.length : Int) := by omega
                have ha0 : (0 : Int) ≤ (a : Int) := by omega
                have han : ¬ (a : Int) < 0 := by omega
                obtain ⟨hrl, hla⟩ := HLL.out a hlta
                subst hrl
                have HLA := hid_s hla
                obtain ⟨⟨at1, aw, ai⟩, hao⟩ : ∃ o : Op3, opAt l a = o := ⟨_, rfl⟩
                have HTA : Hid (∀ b', b' < l.length → at1 = ea → (opAt l b').1 = eb → aw = 2 → (opAt l b').2.1 = 2 → ai ≠ (opAt l b').2.2) := fun b' hb' => by have h9 := HTN.out a b' hltn hlta hb'; rw [hao] at h9; exact h9
                rw [hao] at HLA
                simp only at HLA
                clear hla hao
                go_wp2_with fail
                go_loopw [17] (fun v17 wk => ∃ b : Nat, b ≤ l.length ∧ v17 = .int .i64 b ∧ Below WA.heap.size WA wk) (fun v17 _ => l.length - (intOf v17).toNat)
                case atStart => exact ⟨0, Nat.zero_le _, rfl, HBK2.out⟩
                case round =>
                  obtain ⟨bb, hbb, rfl, hbk⟩ := hrel
                  have HBK := hid_s hbk
                  clear hbk HBK2
                  by_cases hltb : bb < l.length
                  · have hltb' : (bb : Int) < (l.length : Int) := by omega
                    have hb0 : (0 : Int) ≤ (bb : Int) := by omega
                    have hbn : ¬ (bb : Int) < 0 := by omega
                    obtain ⟨-, hlb⟩ := HLL.out bb hltb
                    obtain ⟨d0, d1, d2⟩ := hlb wr HBK.out
                    obtain ⟨c0, c1, c2l⟩ := HLA.out wr HBK.out
                    obtain ⟨f0, f1⟩ := HET.out wr HBK.out
                    have HTB := hid_s (HTA.out bb hltb)
                    obtain ⟨⟨bt, bw, bi⟩, hbo⟩ : ∃ o : Op3, opAt l bb = o := ⟨_, rfl⟩
                    rw [hbo] at d0 d1 d2 HTB
                    simp only at d0 d1 d2 HTB
                    clear hlb hbo
                    by_cases e1 : at1 = ea
                    · have e1' : (at1 == ea) = true := by simpa using e1
                      by_cases e2 : bt = eb
                      · have e2' : (bt == eb) = true := by simpa using e2
                        by_cases e3 : aw = 2
                        · have e3' : (aw == 2) = true := by simpa using e3
                          by_cases e4 : bw = 2
                          · have e4' : (bw == 2) = true := by simpa using e4
                            have e5' : (ai == bi) = false := by simpa using HTB.out e1 e2 e3 e4
                            clear e1 e2 e3 e4 HTB
                            go_wp2_with fail
                            go_quiet (fail)
                            go_wp2_with fail
                            go_roundw
                            case rel => exact ⟨bb + 1, by omega, by go_num, below_drewN HBK.out _⟩
                            case measure => simp [intOf]; omega
                          · have e4' : (bw == 2) = false := by simpa using e4
                            clear e1 e2 e3 e4 HTB
                            go_wp2_with fail
                            go_quiet (fail)
                            go_wp2_with fail
                            go_roundw
                            case rel => exact ⟨bb + 1, by omega, by go_num, below_drewN HBK.out _⟩
                            case measure => simp [intOf]; omega
                        · have e3' : (aw == 2) = false := by simpa using e3
                          clear e1 e2 e3 HTB
                          go_wp2_with fail
                          go_quiet (fail)
                          go_wp2_with fail
                          go_roundw
                          case rel => exact ⟨bb + 1, by omega, by go_num, below_drewN HBK.out _⟩
                          case measure => simp [intOf]; omega
                      · have e2' : (bt == eb) = false := by simpa using e2
                        clear e1 e2 HTB
                        go_wp2_with fail
                        go_quiet (fail)
                        go_wp2_with fail
                        go_roundw
                        case rel => exact ⟨bb + 1, by omega, by go_num, below_drewN HBK.out _⟩
                        case measure => simp [intOf]; omega
                    · have e1' : (at1 == ea) = false := by simpa using e1
                      clear e1 HTB
                      go_wp2_with fail
                      go_quiet (fail)
                      go_wp2_with fail
                      go_roundw
                      case rel => exact ⟨bb + 1, by omega, by go_num, below_drewN HBK.out _⟩
                      case measure => simp [intOf]; omega
                  · have hltb' : ¬ (bb : Int) < (l.length : Int) := by omega
                    go_wp2_with fail
                    go_roundw
                    case rel => exact ⟨a + 1, by omega, by go_num, HBK.out⟩
                    case measure => simp [intOf]; omega
              · have hlta' : ¬ (a : Int) < (l.length : Int) := by omega
                go_wp2_with fail
                go_roundw
                case rel => exact ⟨n + 1, by omega, by go_num, HBK2.out⟩
                case measure => simp [intOf]; omega
          · have hltn' : ¬ (n : Int) < (te.length : Int) := by omega
            go_wp2_with fail
            go_ret
            exact ⟨rfl, HBA.out.trans (HBK.out.mono HBA.out.size)⟩
  · have hev := errV_ne hc
    rw [outU_bad hc] at HRUN
    simp only at HRUN
    rw [hev] at HRUN HTOG
    obtain ⟨ce, hce⟩ : ∃ ce, (chk l).2 = ce := ⟨_, rfl⟩
    rw [hce] at HRUN HTOG
    clear hev hc hce HONE
    go_wp2_with fail
    refine (HRUN.out _ HB3.out).mono ?_
    rintro e w5 ⟨a1, a2, a3, rfl, h1, h2, h3, hro, hb5⟩
    obtain ⟨r1, s1, t1, rfl⟩ : ∃ ad n c, a1 = .slice ad n c := by obtain ⟨ad, _, _, cap, hv, _⟩ := h1; exact ⟨ad, _, cap, hv⟩
    obtain ⟨r2, s2, t2, rfl⟩ : ∃ ad n c, a2 = .slice ad n c := by obtain ⟨ad, _, _, cap, hv, _⟩ := h2; exact ⟨ad, _, cap, hv⟩
    obtain ⟨r3, s3, t3, rfl⟩ : ∃ ad n c, a3 = .slice ad n c := by obtain ⟨ad, _, _, cap, hv, _⟩ := h3; exact ⟨ad, _, cap, hv⟩
    have HB5 := hid_s (HST.out _ _ HB3.out hb5)
    have HB6 : Hid (∀ ob : Obj, Below w.heap.size w (w5.alloc ob)) := fun ob => HST.out _ _ HB5.out ((Below.refl _ w5).alloc (Nat.le_refl _) ob)
    clear h1 h2 h3 hro hb5
    go_wp2_with fail
    refine (HTOG.out _ (HB6.out _)).mono ?_
    rintro e w7 ⟨v7, rfl, hed, hb7⟩
    have HB7 := hid_s (HST.out _ _ (HB6.out _) hb7)
    obtain ⟨r7, s7, t7, rfl⟩ : ∃ ad n c, v7 = .slice ad n c := by obtain ⟨ad, _, _, cap, hv, _⟩ := hed; exact ⟨ad, _, cap, hv⟩
    clear hed hb7
    go_wp2_with fail
    go_ret
    exact ⟨rfl, HB7.out⟩
end Go.Proofs.Ytccjognnehoodaf
