/-
  PROVED HERE: lanesame.Ops says yes of two slices that hold the same list of ops; nothing turns but the count of draws.
  Conditions: none.
  PROVED HERE: how an outcome lies in memory: in a box, and its lists.
  Conditions: none.
  PROVED HERE: lanetop.TopAgree answers true, of any history, over whatever keeps RunsC of chapters 11, 12 and 14, StampC, StrictC, and what serial.Serial, view.Reads and lanetop.one are asked.
  Conditions: these.
  PROVED HERE: serial.doneDeals gives what is done, and of which deals, in memory of its own; of a wrong list Check's error. Old memory stays as it was.
  Conditions: none.
-/
import Derived.Test.YtccjognnehoodahGreatMgab
import Derived.Deep.QuietTactic
import Derived.BigQuiet
import Derived.WalkSmall
import Derived.Test.YtccjognnehoodahGreatMgac
import Derived.Test.YtccjognnehoodahGreatMgan
import Derived.Test.YtccjognnehoodahGreatMgao
import Derived.Test.YtccjognnehoodahGreatMgaf
import Derived.Deep.Cut
import Derived.Test.YtccjognnehoodahGreatMgam
import Derived.Deep.Onto
namespace Go.Proofs.YtccjognnehoodahGreat
open Go.RowKit

set_option maxHeartbeats 4000000 in
theorem same_ops (l : List Op3) (v u : Value) (w : World) (hv : IsOps w v l) (hu : IsOps w u l) (hlen : l.length ≤ 140737488351) :
    Calls Tryz.prog 16 #[v, u] w fun e w' => e = .returned (.bool true) ∧ Below w.heap.size w w' := by
  obtain ⟨ad, b, off, cap, rfl, ha, _, hbB, hops⟩ := hv
  obtain ⟨ad2, b2, off2, cap2, rfl, ha2, _, hbB2, hops2⟩ := hu
  go_enter Tryz.func16, Tryz.ntmps16
  go_wp2
  go_loopw [5] (fun v5 wr => ∃ k : Nat, k ≤ l.length ∧ v5 = .int .i64 k ∧ Below w.heap.size w wr) (fun v5 _ => l.length - (intOf v5).toNat)
  case atStart => exact ⟨0, Nat.zero_le _, rfl, Below.refl _ _⟩
  case round =>
    obtain ⟨k, hk, rfl, hbel⟩ := hrel
    by_cases hlt : k < l.length
    · obtain rfl := ha (by omega)
      obtain rfl := ha2 (by omega)
      obtain ⟨c0, c1, c2⟩ := (hops.below hbel hbB) k hlt
      obtain ⟨d0, d1, d2⟩ := (hops2.below hbel hbB2) k hlt
      obtain ⟨⟨t, a, i⟩, ho⟩ : ∃ o : Op3, l.getD k (0, 0, 0) = o := ⟨_, rfl⟩
      rw [ho] at c0 c1 c2 d0 d1 d2
      simp only at c0 c1 c2 d0 d1 d2
      clear ho hops hops2 ha ha2 hbB hbB2
      go_wp2
      go_quiet (fail)
      go_wp2
      go_roundw
      case rel => exact ⟨k + 1, by omega, by go_num, below_drewN hbel _⟩
      case measure => simp [intOf]; omega
    · go_wp2
      go_ret
      exact ⟨rfl, hbel⟩
end Go.Proofs.YtccjognnehoodahGreat

namespace Go.Proofs.YtccjognnehoodahGreat
open Go.RowKit

/-- An outcome in a box. -/
def ObAt (w : World) (P : Nat) (a1 a2 a3 : Value) : Prop := w.cell? ⟨P, 0, none⟩ = some a1 ∧ w.cell? ⟨P, 1, none⟩ = some a2 ∧ w.cell? ⟨P, 2, none⟩ = some a3
theorem ObAt.below {w w1 : World} {P : Nat} {a1 a2 a3 : Value} (h : ObAt w P a1 a2 a3) (hb : Below w.heap.size w w1) : ObAt w1 P a1 a2 a3 :=
  have hl := World.block_lt_of_cell? w _ h.1
  ⟨(hb.cell (p := ⟨P, 0, none⟩) hl).trans h.1, (hb.cell (p := ⟨P, 1, none⟩) hl).trans h.2.1, (hb.cell (p := ⟨P, 2, none⟩) hl).trans h.2.2⟩
theorem obAt_new (w : World) (a1 a2 a3 : Value) (T : TypeId) : ObAt (w.alloc (.cells #[a1, a2, a3] T)) w.heap.size a1 a2 a3 := ⟨by simp, by simp, by simp⟩
/-- An outcome: its lists. -/
def OuIs (w : World) (a1 a2 a3 : Value) (x : List Int × List Op3 × List Int) : Prop := IsInts w a1 x.1 ∧ IsOps w a2 x.2.1 ∧ IsInts w a3 x.2.2
theorem OuIs.below {w w1 : World} {a1 a2 a3 : Value} {x : List Int × List Op3 × List Int} (h : OuIs w a1 a2 a3 x) (hb : Below w.heap.size w w1) : OuIs w1 a1 a2 a3 x := ⟨h.1.below hb (Nat.le_refl _), h.2.1.below hb (Nat.le_refl _), h.2.2.below hb (Nat.le_refl _)⟩
theorem OuIs.slices {w : World} {a1 a2 a3 : Value} {x : List Int × List Op3 × List Int} (h : OuIs w a1 a2 a3 x) : (∃ ad n c, a1 = .slice ad n c) ∧ (∃ ad n c, a2 = .slice ad n c) ∧ ∃ ad n c, a3 = .slice ad n c := by
  obtain ⟨⟨d1, _, _, c1, e1, _⟩, ⟨d2, _, _, c2, e2, _⟩, ⟨d3, _, _, c3, e3, _⟩⟩ := h
  exact ⟨⟨d1, _, c1, e1⟩, ⟨d2, _, c2, e2⟩, ⟨d3, _, c3, e3⟩⟩
end Go.Proofs.YtccjognnehoodahGreat

namespace Go.Proofs.YtccjognnehoodahGreat
open Go.RowKit

theorem hid_a {p : Prop} (h : p) : Hid p := h
def OneC : Prop := ∀ w : World, Calls Tryz.prog 4 #[] w fun e w' => e = .returned (.bool true) ∧ Below w.heap.size w w'
def SerC : Prop := ∀ (l : List Op3) (o : List Int) (v u : Value) (w : World), IsOps w v l → IsInts w u o → (chk l).2 = 0 → sortI o = dealsL (doneL l) → Calls Tryz.prog 7 #[v, u] w fun e w' => ∃ v', e = .returned (.tuple #[v', .nilIface]) ∧ IsOps w' v' (alongL (doneL l) o) ∧ Below w.heap.size w w'
def ReadsC : Prop := ∀ (l : List Op3) (v : Value) (w : World), IsOps w v l → (chk l).2 = 0 → Calls Tryz.prog 13 #[v] w fun e w' => ∃ v', e = .returned (.tuple #[v', .nilIface]) ∧ IsEdges w' v' (readsTo (doneL l) (doneL l).length) ∧ Below w.heap.size w w'
/-- A history in memory, and its deals. -/
structure AgS (w : World) (vs vo : Value) (s : List Op3) (o : List Int) : Prop where
  ops : IsOps w vs s
  ints : IsInts w vo o
theorem AgS.below {w w1 : World} {vs vo : Value} {s : List Op3} {o : List Int} (h : AgS w vs vo s o) (hb : Below w.heap.size w w1) : AgS w1 vs vo s o := ⟨h.ops.below hb (Nat.le_refl _), h.ints.below hb (Nat.le_refl _)⟩
/-- An outcome in its box. -/
structure AgO (w : World) (X : Nat) (a1 a2 a3 : Value) (x : List Int × List Op3 × List Int) : Prop where
  box : ObAt w X a1 a2 a3
  ou : OuIs w a1 a2 a3 x
theorem AgO.below {w w1 : World} {X : Nat} {a1 a2 a3 : Value} {x : List Int × List Op3 × List Int} (h : AgO w X a1 a2 a3 x) (hb : Below w.heap.size w w1) : AgO w1 X a1 a2 a3 x := ⟨h.box.below hb, h.ou.below hb⟩
theorem ops_later {w w1 : World} {v : Value} {l : List Op3} (h : IsOps w v l) (hb : Below w.heap.size w w1) : IsOps w1 v l := h.below hb (Nat.le_refl _)
set_option maxHeartbeats 32000000 in
set_option maxRecDepth 100000 in
theorem agree_any (hOne : OneC) (hSer : SerC) (hRd : ReadsC) (hV : RunsC 8 1 okV false) (hS : RunsC 9 2 okS false) (hN : RunsC 10 4 okN true) (hSt : StampC) (hSr : StrictC) (l : List Op3) (v : Value) (w : World) (hI : IsOps w v l) :
    Calls Tryz.prog 3 #[v] w fun e w' => e = .returned (.bool true) ∧ Below w.heap.size w w' := by
  have HST : Hid (∀ W W', Below w.heap.size w W → Below W.heap.size W W' → Below w.heap.size w W') := fun W W' h1 h2 => h1.trans (h2.mono h1.size)
  have HON := hid_a (hOne w)
  by_cases hc : (chk l).2 = 0
  · have HDN : Hid (∀ W, Below w.heap.size w W → Calls Tryz.prog 5 #[v] W fun e w' => ∃ v', e = .returned (.tuple #[v', .nilIface]) ∧ IsOps w' v' (doneL l) ∧ Below W.heap.size W w') := fun W hW => done_ok l v W (hI.below hW (Nat.le_refl _)) hc
    have hcd := chk_done hc
    have hdd : doneL (doneL l) = doneL l := done_done l
    have U := up_along hc
    have hdl := up_deals_along l
    obtain ⟨d, hd⟩ : ∃ d, doneL l = d := ⟨_, rfl⟩
    rw [hd] at HDN hcd hdd U hdl
    have HDE : Hid (∀ W u, IsOps W u d → Calls Tryz.prog 6 #[u] W fun e w' => ∃ v', e = .returned (.tuple #[v', .nilIface]) ∧ IsInts w' v' (dealsL d) ∧ Below W.heap.size W w') := fun W u hu => deals_ok d u W hu hcd
    have HSE : Hid (∀ W u z, IsOps W u d → IsInts W z (dealsL d) → Calls Tryz.prog 7 #[u, z] W fun e w' => ∃ v', e = .returned (.tuple #[v', .nilIface]) ∧ IsOps w' v' (alongL d (dealsL d)) ∧ Below W.heap.size W w') := fun W u z hu hz => by
      have := hSer d (dealsL d) u z W hu hz hcd (by rw [hdd]; exact sort_rise (dealsL_rise d))
      rw [hdd] at this
      exact this
    obtain ⟨g1, g2, g3, g4, g5⟩ := agree_out U
    have hlen := chk_len U.chk
    have hrs := reads_one (alongL d (dealsL d)) (alongL d (dealsL d)).length (Nat.le_refl _)
    rw [← g5] at hrs
    rw [hdl] at g4
    have hul := outU_len 1 okV false (alongL d (dealsL d))
    have hst := up_stampR U false
    have hsr := up_strictR U 0
    have hud := up_done U
    have hchk := U.chk
    have e1 := stampU_ok (leave := false) hchk
    have e2 : strictU (alongL d (dealsL d)) 0 = (((strictR 0 (alongL d (dealsL d))).told, (strictR 0 (alongL d (dealsL d))).vict), 0) := by
      unfold strictU
      rw [if_neg (by simpa using hchk), if_neg (by decide)]
    rw [hst.1, hst.2] at e1
    rw [hsr.1, hsr.2] at e2
    obtain ⟨s, hs⟩ : ∃ s, alongL d (dealsL d) = s := ⟨_, rfl⟩
    obtain ⟨o, ho⟩ : ∃ o, dealsL d = o := ⟨_, rfl⟩
    rw [hs] at HSE g1 g2 g3 g4 g5 hlen hrs hul hud hchk e1 e2
    rw [ho] at HDE HSE g4
    obtain ⟨x, hx⟩ : ∃ x, (outU 1 okV false s).1 = x := ⟨_, rfl⟩
    rw [hx] at g4 hrs hul
    have err0 : ∀ n : Int, n = 0 → errV n = .nilIface := fun n h => by rw [h]; exact if_pos rfl
    have HRV : Hid (∀ W u, IsOps W u s → Calls Tryz.prog 8 #[u] W fun e w' => ∃ a1 a2 a3, e = .returned (.tuple #[.agg #[a1, a2, a3], .nilIface]) ∧ OuIs w' a1 a2 a3 x ∧ Below W.heap.size W w') := fun W u hu => (hV s u W hu).mono fun e w' ⟨a1, a2, a3, he, h1, h2, h3, _, hb⟩ => ⟨a1, a2, a3, by rw [he, err0 _ g3], by rw [← hx]; exact ⟨h1, h2, h3⟩, hb⟩
    have HRS : Hid (∀ W u, IsOps W u s → Calls Tryz.prog 9 #[u] W fun e w' => ∃ a1 a2 a3, e = .returned (.tuple #[.agg #[a1, a2, a3], .nilIface]) ∧ OuIs w' a1 a2 a3 x ∧ Below W.heap.size W w') := fun W u hu => (hS s u W hu).mono fun e w' ⟨a1, a2, a3, he, h1, h2, h3, _, hb⟩ => ⟨a1, a2, a3, by rw [he, g1, err0 _ g3], by rw [← hx, ← g1]; exact ⟨h1, h2, h3⟩, hb⟩
    have HRN : Hid (∀ W u, IsOps W u s → Calls Tryz.prog 10 #[u] W fun e w' => ∃ a1 a2 a3, e = .returned (.tuple #[.agg #[a1, a2, a3], .nilIface]) ∧ OuIs w' a1 a2 a3 x ∧ Below W.heap.size W w') := fun W u hu => (hN s u W hu).mono fun e w' ⟨a1, a2, a3, he, h1, h2, h3, _, hb⟩ => ⟨a1, a2, a3, by rw [he, g2, err0 _ g3], by rw [← hx, ← g2]; exact ⟨h1, h2, h3⟩, hb⟩
    have HSM : Hid (∀ W u, IsOps W u s → Calls Tryz.prog 11 #[u, .bool false] W fun e w' => ∃ v1 a c, e = .returned (.tuple #[v1, .slice a 0 c, .nilIface]) ∧ IsOps w' v1 s ∧ Below W.heap.size W w') := fun W u hu => (hSt s u false W hu).mono fun e w' ⟨v1, v2, he, h1, h2, hb⟩ => by
      rw [e1] at he h1 h2
      obtain ⟨ad, _, _, cap, rfl, _⟩ := h2
      exact ⟨v1, ad, cap, he, h1, hb⟩
    have HSR : Hid (∀ W u, IsOps W u s → Calls Tryz.prog 12 #[u, .int .i64 0] W fun e w' => ∃ v1 a c, e = .returned (.tuple #[v1, .slice a 0 c, .nilIface]) ∧ IsOps w' v1 s ∧ Below W.heap.size W w') := fun W u hu => (hSr s u 0 W hu).mono fun e w' ⟨v1, v2, he, h1, h2, hb⟩ => by
      rw [e2] at he h1 h2
      obtain ⟨ad, _, _, cap, rfl, _⟩ := h2
      exact ⟨v1, ad, cap, he, h1, hb⟩
    have HRD : Hid (∀ W u, IsOps W u s → Calls Tryz.prog 13 #[u] W fun e w' => ∃ v', e = .returned (.tuple #[v', .nilIface]) ∧ IsEdges w' v' (readsTo s s.length) ∧ Below W.heap.size W w') := fun W u hu => by have := hRd s u W hu hchk; rw [hud] at this; exact this
    obtain ⟨rd, hrd⟩ : ∃ r, readsTo s s.length = r := ⟨_, rfl⟩
    rw [hrd] at HRD hrs
    have HRX := hid_a hrs
    have HX1 := hid_a g4
    have HUL := hid_a hul
    have hs40 : s.length ≤ 40 := hlen
    have hrl : rd.length ≤ 40 := by rw [← hrd]; have := readsTo_len s s.length; omega
    have HL40 := hid_a (And.intro hs40 hrl)
    obtain ⟨ad, b, off, cap, hv, -⟩ := hI
    subst hv
    clear hc hcd hdd U hdl g1 g2 g3 g4 g5 hlen hrs hul hst hsr hud hchk e1 e2 hs ho hx err0 hrd hs40 hrl hd hOne hSer hRd hV hS hN hSt hSr
    go_enter Tryz.func3, Tryz.ntmps3
    go_wp2_with fail
    refine HON.out.mono ?_
    rintro e w1 ⟨rfl, hb1⟩
    have HB1 := hid_a hb1
    clear hb1
    go_wp2_with fail
    refine (HDN.out w1 HB1.out).mono ?_
    rintro e w2 ⟨v2, rfl, hi2, hb2⟩
    have HI2 := hid_a hi2
    have HB2 := hid_a (HST.out _ _ HB1.out hb2)
    obtain ⟨d2, n2, c2, rfl⟩ : ∃ d n p, v2 = .slice d n p := by obtain ⟨a, _, _, c, h, _⟩ := hi2; exact ⟨a, _, c, h⟩
    clear hi2 hb2
    go_wp2_with fail
    refine (HDE.out w2 _ HI2.out).mono ?_
    rintro e w3 ⟨v3, rfl, hi3, hb3⟩
    have HI3 := hid_a (And.intro (ops_later HI2.out hb3) hi3)
    have HB3 := hid_a (HST.out _ _ HB2.out hb3)
    obtain ⟨d3, n3, c3, rfl⟩ : ∃ d n p, v3 = .slice d n p := by obtain ⟨a, _, _, c, h, _⟩ := hi3; exact ⟨a, _, c, h⟩
    clear hi3 hb3
    go_wp2_with fail
    refine (HSE.out w3 _ _ HI3.out.1 HI3.out.2).mono ?_
    rintro e w4 ⟨v4, rfl, hi4, hb4⟩
    have HS4 : Hid (AgS w4 v4 (.slice d3 n3 c3) s o) := ⟨hi4, HI3.out.2.below hb4 (Nat.le_refl _)⟩
    have HB4 := hid_a (HST.out _ _ HB3.out hb4)
    obtain ⟨ads, bs, offs, caps, hvs, -⟩ := hi4
    subst hvs
    clear hb4
    obtain ⟨ns, hns⟩ : ∃ n, s.length = n := ⟨_, rfl⟩
    have HNS := hid_a hns
    rw [hns] at HS4
    rw [hns]
    clear hns
    go_wp2_with fail
    refine (HRV.out w4 _ HS4.out.ops).mono ?_
    rintro e w5 ⟨a1, a2, a3, rfl, hou, hb⟩
    obtain ⟨⟨ap1, ap2, ap3, rfl⟩, ⟨ap4, ap5, ap6, rfl⟩, ⟨ap7, ap8, ap9, rfl⟩⟩ := hou.slices
    have HS5 := hid_a (HS4.out.below hb)
    have HB5 := hid_a (HST.out _ _ HB4.out hb)
    have HO5 := hid_a hou
    clear hou hb
    go_upto_region 12 with (fail)
    obtain ⟨W6, hW⟩ : ∃ W, W = w5.alloc (.cells #[.slice ap1 ap2 ap3, .slice ap4 ap5 ap6, .slice ap7 ap8 ap9] 34) := ⟨_, rfl⟩
    rw [← hW]
    have hn : Below w5.heap.size w5 W6 := by rw [hW]; exact (Below.refl _ w5).alloc (Nat.le_refl _) _
    have HKa6 : Hid (AgO W6 w5.heap.size (.slice ap1 ap2 ap3) (.slice ap4 ap5 ap6) (.slice ap7 ap8 ap9) x) := by refine ⟨?_, HO5.out.below hn⟩; rw [hW]; exact obAt_new _ _ _ _ _
    have HS6 := hid_a (HS5.out.below hn)
    have HB6 := hid_a (HST.out _ _ HB5.out hn)
    obtain ⟨Xa, hX⟩ : ∃ X, X = w5.heap.size := ⟨_, rfl⟩
    rw [← hX] at HKa6 ⊢
    clear hW hn hX
    go_wp2_with fail
    refine (HRS.out W6 _ HS6.out.ops).mono ?_
    rintro e w7 ⟨b1, b2, b3, rfl, hou, hb⟩
    obtain ⟨⟨bp1, bp2, bp3, rfl⟩, ⟨bp4, bp5, bp6, rfl⟩, ⟨bp7, bp8, bp9, rfl⟩⟩ := hou.slices
    have HS7 := hid_a (HS6.out.below hb)
    have HB7 := hid_a (HST.out _ _ HB6.out hb)
    have HKa7 := hid_a (HKa6.out.below hb)
    have HO7 := hid_a hou
    clear hou hb
    go_upto_region 13 with (fail)
    obtain ⟨W8, hW⟩ : ∃ W, W = w7.alloc (.cells #[.slice bp1 bp2 bp3, .slice bp4 bp5 bp6, .slice bp7 bp8 bp9] 34) := ⟨_, rfl⟩
    rw [← hW]
    have hn : Below w7.heap.size w7 W8 := by rw [hW]; exact (Below.refl _ w7).alloc (Nat.le_refl _) _
    have HKb8 : Hid (AgO W8 w7.heap.size (.slice bp1 bp2 bp3) (.slice bp4 bp5 bp6) (.slice bp7 bp8 bp9) x) := by refine ⟨?_, HO7.out.below hn⟩; rw [hW]; exact obAt_new _ _ _ _ _
    have HS8 := hid_a (HS7.out.below hn)
    have HB8 := hid_a (HST.out _ _ HB7.out hn)
    have HKa8 := hid_a (HKa7.out.below hn)
    obtain ⟨Xb, hX⟩ : ∃ X, X = w7.heap.size := ⟨_, rfl⟩
    rw [← hX] at HKb8 ⊢
    clear hW hn hX
    go_wp2_with fail
    refine (HRN.out W8 _ HS8.out.ops).mono ?_
    rintro e w9 ⟨c1, c2, c3, rfl, hou, hb⟩
    obtain ⟨⟨cp1, cp2, cp3, rfl⟩, ⟨cp4, cp5, cp6, rfl⟩, ⟨cp7, cp8, cp9, rfl⟩⟩ := hou.slices
    have HS9 := hid_a (HS8.out.below hb)
    have HB9 := hid_a (HST.out _ _ HB8.out hb)
    have HKa9 := hid_a (HKa8.out.below hb)
    have HKb9 := hid_a (HKb8.out.below hb)
    have HO9 := hid_a hou
    clear hou hb
    go_upto_region 14 with (fail)
    obtain ⟨W10, hW⟩ : ∃ W, W = w9.alloc (.cells #[.slice cp1 cp2 cp3, .slice cp4 cp5 cp6, .slice cp7 cp8 cp9] 34) := ⟨_, rfl⟩
    rw [← hW]
    have hn : Below w9.heap.size w9 W10 := by rw [hW]; exact (Below.refl _ w9).alloc (Nat.le_refl _) _
    have HKc10 : Hid (AgO W10 w9.heap.size (.slice cp1 cp2 cp3) (.slice cp4 cp5 cp6) (.slice cp7 cp8 cp9) x) := by refine ⟨?_, HO9.out.below hn⟩; rw [hW]; exact obAt_new _ _ _ _ _
    have HS10 := hid_a (HS9.out.below hn)
    have HB10 := hid_a (HST.out _ _ HB9.out hn)
    have HKa10 := hid_a (HKa9.out.below hn)
    have HKb10 := hid_a (HKb9.out.below hn)
    obtain ⟨Xc, hX⟩ : ∃ X, X = w9.heap.size := ⟨_, rfl⟩
    rw [← hX] at HKc10 ⊢
    clear hW hn hX
    go_wp2_with fail
    refine (HSM.out W10 _ HS10.out.ops).mono ?_
    rintro e w11 ⟨v11, ax, cx, rfl, hi, hb⟩
    have HT11 := hid_a hi
    obtain ⟨t1, t2, t3, rfl⟩ : ∃ d n p, v11 = .slice d n p := by obtain ⟨a, _, _, c, h, _⟩ := hi; exact ⟨a, _, c, h⟩
    have HS11 := hid_a (HS10.out.below hb)
    have HB11 := hid_a (HST.out _ _ HB10.out hb)
    have HKa11 := hid_a (HKa10.out.below hb)
    have HKb11 := hid_a (HKb10.out.below hb)
    have HKc11 := hid_a (HKc10.out.below hb)
    clear hi hb
    go_wp2_with fail
    refine (HSR.out w11 _ HS11.out.ops).mono ?_
    rintro e w12 ⟨v12, ay, cy, rfl, hi, hb⟩
    have HU12 := hid_a hi
    obtain ⟨r1, r2, r3, rfl⟩ : ∃ d n p, v12 = .slice d n p := by obtain ⟨a, _, _, c, h, _⟩ := hi; exact ⟨a, _, c, h⟩
    have HT12 := hid_a (ops_later HT11.out hb)
    have HS12 := hid_a (HS11.out.below hb)
    have HB12 := hid_a (HST.out _ _ HB11.out hb)
    have HKa12 := hid_a (HKa11.out.below hb)
    have HKb12 := hid_a (HKb11.out.below hb)
    have HKc12 := hid_a (HKc11.out.below hb)
    clear hi hb
    go_wp2_with fail
    refine (HRD.out w12 _ HS12.out.ops).mono ?_
    rintro e w13 ⟨v13, rfl, hi, hb⟩
    have HE13 := hid_a hi
    obtain ⟨ade, be, offe, cape, rfl, -⟩ := hi
    have HU13 := hid_a (ops_later HU12.out hb)
    have HT13 := hid_a (ops_later HT12.out hb)
    have HS13 := hid_a (HS12.out.below hb)
    have HB13 := hid_a (HST.out _ _ HB12.out hb)
    have HKa13 := hid_a (HKa12.out.below hb)
    have HKb13 := hid_a (HKb12.out.below hb)
    have HKc13 := hid_a (HKc12.out.below hb)
    clear hb
    obtain ⟨nr, hnr⟩ : ∃ n, rd.length = n := ⟨_, rfl⟩
    have HNR := hid_a hnr
    rw [hnr] at HE13
    rw [hnr]
    clear hnr
    go_upto_region 19 with (fail)
    obtain ⟨q0, q1, q2⟩ := HKa13.out.box
    obtain ⟨k0, k1, k2⟩ := HKb13.out.box
    go_wp2_with fail
    have hle := HUL.out
    refine (same_outcome x.1 x.2.1 x.2.2 _ _ _ _ _ _ w13 HKa13.out.ou.1 HKa13.out.ou.2.1 HKa13.out.ou.2.2 HKb13.out.ou.1 HKb13.out.ou.2.1 HKb13.out.ou.2.2 (by omega) (by omega) (by omega)).mono ?_
    rintro e w14 ⟨rfl, hb⟩
    have HE14 : Hid (IsEdges w14 (.slice ade nr cape) rd) := HE13.out.below hb (Nat.le_refl _)
    have HU14 := hid_a (ops_later HU13.out hb)
    have HT14 := hid_a (ops_later HT13.out hb)
    have HS14 := hid_a (HS13.out.below hb)
    have HB14 := hid_a (HST.out _ _ HB13.out hb)
    have HKa14 := hid_a (HKa13.out.below hb)
    have HKc14 := hid_a (HKc13.out.below hb)
    clear hb hle q0 q1 q2 k0 k1 k2
    obtain ⟨q0, q1, q2⟩ := HKa14.out.box
    obtain ⟨k0, k1, k2⟩ := HKc14.out.box
    go_wp2_with fail
    have hle := HUL.out
    refine (same_outcome x.1 x.2.1 x.2.2 _ _ _ _ _ _ w14 HKa14.out.ou.1 HKa14.out.ou.2.1 HKa14.out.ou.2.2 HKc14.out.ou.1 HKc14.out.ou.2.1 HKc14.out.ou.2.2 (by omega) (by omega) (by omega)).mono ?_
    rintro e w15 ⟨rfl, hb⟩
    have HE15 : Hid (IsEdges w15 (.slice ade nr cape) rd) := HE14.out.below hb (Nat.le_refl _)
    have HU15 := hid_a (ops_later HU14.out hb)
    have HT15 := hid_a (ops_later HT14.out hb)
    have HS15 := hid_a (HS14.out.below hb)
    have HB15 := hid_a (HST.out _ _ HB14.out hb)
    have HKa15 := hid_a (HKa14.out.below hb)
    clear hb hle q0 q1 q2 k0 k1 k2
    obtain ⟨q0, q1, q2⟩ := HKa15.out.box
    have HSI := hid_a (same_ints o _ _ w15 (by have h9 := HKa15.out.ou.1; rw [HX1.out] at h9; exact h9) HS15.out.ints (by have h8 := HUL.out.1; rw [HX1.out] at h8; omega))
    go_wp2_with fail
    refine HSI.out.mono ?_
    rintro e w16 ⟨rfl, hb⟩
    have HE16 : Hid (IsEdges w16 (.slice ade nr cape) rd) := HE15.out.below hb (Nat.le_refl _)
    have HU16 := hid_a (ops_later HU15.out hb)
    have HT16 := hid_a (ops_later HT15.out hb)
    have HS16 := hid_a (HS15.out.below hb)
    have HB16 := hid_a (HST.out _ _ HB15.out hb)
    have HKa16 := hid_a (HKa15.out.below hb)
    clear hb q0 q1 q2
    go_wp2_with fail
    refine (same_ops s _ _ w16 HT16.out HS16.out.ops (by have := HL40.out.1; omega)).mono ?_
    rintro e w17 ⟨rfl, hb⟩
    have HE17 : Hid (IsEdges w17 (.slice ade nr cape) rd) := HE16.out.below hb (Nat.le_refl _)
    have HU17 := hid_a (ops_later HU16.out hb)
    have HS17 := hid_a (HS16.out.below hb)
    have HB17 := hid_a (HST.out _ _ HB16.out hb)
    have HKa17 := hid_a (HKa16.out.below hb)
    clear hb
    go_wp2_with fail
    refine (same_ops s _ _ w17 HU17.out HS17.out.ops (by have := HL40.out.1; omega)).mono ?_
    rintro e w18 ⟨rfl, hb⟩
    have HE18 : Hid (IsEdges w18 (.slice ade nr cape) rd) := HE17.out.below hb (Nat.le_refl _)
    have HS18 := hid_a (HS17.out.below hb)
    have HB18 := hid_a (HST.out _ _ HB17.out hb)
    have HKa18 := hid_a (HKa17.out.below hb)
    clear hb
    obtain ⟨q0, q1, q2⟩ := HKa18.out.box
    obtain ⟨ad4, b4, o4, c4, e4, h4, -, hB4, k4⟩ := HKa18.out.ou.2.1
    injection e4 with e5 e6 e7
    have hlen : ap5 = nr := by rw [e6, HRX.out.1]; exact HNR.out
    have HSE4 : Hid (∀ k, k < nr → ap4 = some ⟨b4, o4, none⟩ ∧ b4 < w18.heap.size ∧ w18.cell? ⟨b4, o4 + k * 3, none⟩ = some (.int .i64 (opAt x.2.1 k).1) ∧ w18.cell? ⟨b4, o4 + k * 3 + 1, none⟩ = some (.int .i64 (opAt x.2.1 k).2.1) ∧ w18.cell? ⟨b4, o4 + k * 3 + 2, none⟩ = some (.int .i64 (opAt x.2.1 k).2.2)) := fun k hk => by
      have hkl : k < x.2.1.length := by rw [← e6, hlen]; exact hk
      refine ⟨by rw [e5]; exact h4 (by omega), ?_, k4 k hkl⟩
      rcases hB4 with h | h
      · exact h
      · rw [h] at hkl; cases hkl
    obtain ⟨ad5, b5, o5, c5, e8, h5, -, hB5, k5⟩ := HE18.out
    injection e8 with e9 e10 e11
    have HSE5 : Hid (∀ k, k < nr → ade = some ⟨b5, o5, none⟩ ∧ b5 < w18.heap.size ∧ w18.cell? ⟨b5, o5 + k * 2, none⟩ = some (.int .i64 (rd.getD k (0, 0)).1) ∧ w18.cell? ⟨b5, o5 + k * 2 + 1, none⟩ = some (.int .i64 (rd.getD k (0, 0)).2)) := fun k hk => by
      have hkl : k < rd.length := by rw [HNR.out]; exact hk
      refine ⟨by rw [e9]; exact h5 (by omega), ?_, k5 k hkl⟩
      rcases hB5 with h | h
      · exact h
      · rw [h] at hkl; cases hkl
    obtain ⟨ad6, b6, o6, c6, e12, h6, -, hB6, k6⟩ := HS18.out.ops
    injection e12 with e13 e14 e15
    have HSE6 : Hid (∀ k, k < ns → ads = some ⟨b6, o6, none⟩ ∧ b6 < w18.heap.size ∧ w18.cell? ⟨b6, o6 + k * 3, none⟩ = some (.int .i64 (opAt s k).1) ∧ w18.cell? ⟨b6, o6 + k * 3 + 1, none⟩ = some (.int .i64 (opAt s k).2.1) ∧ w18.cell? ⟨b6, o6 + k * 3 + 2, none⟩ = some (.int .i64 (opAt s k).2.2)) := fun k hk => by
      have hkl : k < s.length := by rw [HNS.out]; exact hk
      refine ⟨by rw [e13]; exact h6 (by omega), ?_, k6 k hkl⟩
      rcases hB6 with h | h
      · exact h
      · rw [h] at hkl; cases hkl
    subst hlen
    have hnr40 : ap5 ≤ 40 := by rw [← HNR.out]; exact HL40.out.2
    have hns40 : ns ≤ 40 := by rw [← HNS.out]; exact HL40.out.1
    have HXB := hid_a (World.block_lt_of_cell? w18 _ q1)
    clear e5 e7 h4 hB4 k4 e9 e10 e11 h5 hB5 k5 e13 e14 e15 h6 hB6 k6
    go_upto_region 21 with (fail)
    have HQ1 := hid_a q1
    clear q0 q1 q2
    go_wp2_with fail
    go_loopw [24] (fun v24 wr => ∃ k : Nat, k ≤ ap5 ∧ v24 = .int .i64 k ∧ Below w18.heap.size w18 wr) (fun v24 _ => ap5 - (intOf v24).toNat)
    case atStart => exact ⟨0, Nat.zero_le _, rfl, Below.refl _ _⟩
    case round =>
      obtain ⟨k, hk, rfl, hbel⟩ := hrel
      have HBE := hid_a hbel
      by_cases hlt : k < ap5
      · have hlt' : (k : Int) < (ap5 : Int) := by omega
        have hk0 : (0 : Int) ≤ (k : Int) := by omega
        have hkn : ¬ (k : Int) < 0 := by omega
        have q1 := (hbel.cell (p := ⟨Xa, 1, none⟩) HXB.out).trans HQ1.out
        obtain ⟨rfl, hl4, x0, x1, x2⟩ := HSE4.out k hlt
        obtain ⟨rfl, hl5, y0, y1⟩ := HSE5.out k hlt
        obtain ⟨i1, p, i2, i3, i4⟩ := HRX.out.2 k (by rw [HNR.out]; exact hlt)
        have hp : p < ns := by rw [← HNS.out]; exact i3
        obtain ⟨rfl, hl6, z0, z1, z2⟩ := HSE6.out p hp
        have m1 := (hbel.cell (p := ⟨b4, o4 + k * 3 + 1, none⟩) hl4).trans x1
        have m2 := (hbel.cell (p := ⟨b4, o4 + k * 3 + 2, none⟩) hl4).trans x2
        have m3 := (hbel.cell (p := ⟨b5, o5 + k * 2, none⟩) hl5).trans y0
        have m4 := (hbel.cell (p := ⟨b5, o5 + k * 2 + 1, none⟩) hl5).trans y1
        have m5 := (hbel.cell (p := ⟨b6, o6 + p * 3 + 2, none⟩) hl6).trans z2
        rw [i1] at m2
        rw [i2] at m3
        rw [i4] at m1
        obtain ⟨f, hf⟩ : ∃ f, (rd.getD k (0, 0)).2 = f := ⟨_, rfl⟩
        obtain ⟨it, hit⟩ : ∃ f, (opAt s p).2.2 = f := ⟨_, rfl⟩
        rw [hf] at m2 m4
        rw [hit] at m1 m5
        have hp0 : (0 : Int) ≤ (p : Int) := by omega
        have hpn : ¬ (p : Int) < 0 := by omega
        have hpl : (p : Int) < (ns : Int) := by omega
        have hpg : ¬ (ns : Int) ≤ (p : Int) := by omega
        have t1 : (f != f) = false := by simp
        have t2 : (it != it) = false := by simp
        have t3 : decide ((p : Int) < 0) = false := decide_eq_false hpn
        have t4 : decide ((ns : Int) ≤ (p : Int)) = false := decide_eq_false hpg
        have HB4q : Hid (∀ nq, Below w18.heap.size w18 (wr.drewN nq)) := fun nq => HBE.out.trans ((below_drewN (Below.refl _ _) _).mono HBE.out.size)
        clear hf hit x0 x1 x2 y0 y1 z0 z1 z2 i1 i2 i3 i4 hbel hp
        go_upto_region 24 with (fail)
        go_quiet (fail)
        go_wp2_with fail
        go_roundw
        case rel => exact ⟨k + 1, by omega, by go_num, HB4q.out _⟩
        case measure => simp [intOf]; omega
      · have hlt' : ¬ (k : Int) < (ap5 : Int) := by omega
        have HBZ := hid_a (HST.out _ _ HB18.out hbel)
        clear hbel
        go_wp2_with fail
        go_ret
        exact ⟨rfl, HBZ.out⟩
  · have HDN : Hid (∀ W, Below w.heap.size w W → Calls Tryz.prog 5 #[v] W fun e w' => e = .returned (.tuple #[.slice none 0 0, .iface 61 (.int .i64 (chk l).2)]) ∧ Below W.heap.size W w') := fun W hW => done_bad l v W (hI.below hW (Nat.le_refl _)) hc
    obtain ⟨ce, hce⟩ : ∃ ce, (chk l).2 = ce := ⟨_, rfl⟩
    rw [hce] at HDN
    obtain ⟨ad, b, off, cap, hv, -⟩ := hI
    subst hv
    clear hc hce hOne hSer hRd hV hS hN hSt hSr
    go_enter Tryz.func3, Tryz.ntmps3
    go_wp2_with fail
    refine HON.out.mono ?_
    rintro e w1 ⟨rfl, hb1⟩
    have HB1 := hid_a hb1
    clear hb1
    go_wp2_with fail
    refine (HDN.out w1 HB1.out).mono ?_
    rintro e w2 ⟨rfl, hb2⟩
    have HB2 := hid_a (HST.out _ _ HB1.out hb2)
    clear hb2
    go_wp2_with fail
    go_ret
    exact ⟨rfl, HB2.out⟩
end Go.Proofs.YtccjognnehoodahGreat

namespace Go.Proofs.YtccjognnehoodahGreat
open Go.RowKit

set_option maxHeartbeats 2000000 in
theorem ddeals_bad (l : List Op3) (v : Value) (w : World) (h : IsOps w v l) (hc : (chk l).2 ≠ 0) :
    Calls Tryz.prog 23 #[v] w fun e w' => e = .returned (.tuple #[.slice none 0 0, .slice none 0 0, .iface 61 (.int .i64 (chk l).2)]) ∧ Below w.heap.size w w' := by
  go_enter Tryz.func23, Tryz.ntmps23
  go_wp2_with (go_at_call 5; refine (done_bad l _ _ h hc).mono ?_; rintro e w1 ⟨rfl, hb1⟩)
  go_ret3
  exact ⟨rfl, hb1⟩
set_option maxHeartbeats 2000000 in
theorem ddeals_ok (l : List Op3) (v : Value) (w : World) (h : IsOps w v l) (hc : (chk l).2 = 0) :
    Calls Tryz.prog 23 #[v] w fun e w' => ∃ u v', e = .returned (.tuple #[u, v', .nilIface]) ∧ IsOps w' u (doneL l) ∧ w'.ownsRow w.heap.size 3 1 v' (dealsL (doneL l)).length ((dealsL (doneL l)).map (Value.int .i64)) ∧ Below w.heap.size w w' := by
  go_enter Tryz.func23, Tryz.ntmps23
  go_wp2_with fail
  refine (done_ok l _ _ h hc).mono ?_
  rintro e w1 ⟨u, rfl, hI1, hb1⟩
  go_wp2_with fail
  refine (deals_own (doneL l) u _ hI1 (chk_done hc)).mono ?_
  rintro e w2 ⟨v', rfl, hown2, hb2⟩
  go_wp2_with fail
  go_ret3
  exact ⟨_, _, rfl, hI1.below hb2 (Nat.le_refl _), hown2.mono hb1.size, hb1.trans (hb2.mono hb1.size)⟩
end Go.Proofs.YtccjognnehoodahGreat
