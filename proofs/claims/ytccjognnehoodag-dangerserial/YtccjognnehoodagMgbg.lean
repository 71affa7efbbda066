/-
  PROVED HERE: how an outcome lies in memory: in a box, and its lists.
  Conditions: none.
  PROVED HERE: lanelaw2.DangerSerial answers true, of any ops, over whatever keeps RunsC of chapters 12 and 13 and PivC.
  Conditions: RunsC, PivC.
-/
import Derived.Test.YtccjognnehoodagMgac
import Derived.Test.YtccjognnehoodagMgae
import Derived.Test.YtccjognnehoodagMgbf
namespace Go.Proofs.Ytccjognnehoodag
open Go.RowKit

/-- An outcome in a box. -/
def ObAt (w : World) (P : Nat) (a1 a2 a3 : Value) : Prop := w.cell? ⟨P, 0, none⟩ = some a1 ∧ w.cell? ⟨P, 1, none⟩ = some a2 ∧ w.cell? ⟨P, 2, none⟩ = some a3
theorem ObAt.below {w w1 : World} {P : Nat} {a1 a2 a3 : Value} (h : ObAt w P a1 a2 a3) (hb : Below w.heap.size w w1) : ObAt w1 P a1 a2 a3 :=
  have hl := World.block_lt_of_cell? w _ h.1
  ⟨(hb.cell (p := ⟨P, 0, none⟩) hl).trans h.1, (hb.cell (p := ⟨P, 1, none⟩) hl).trans h.2.1, (hb.cell (p := ⟨P, 2, none⟩) hl).trans h.2.2⟩
theorem obAt_new (w : World) (a1 a2 a3 : Value) (T : TypeId) : ObAt (w.alloc (.cells #[a1, a2, a3] T)) w.heap.size a1 a2 a3 := ⟨by simp, by simp, by simp⟩
/-- An outcome: its lists. -/
def OuIs (w : World) (a1 a2 a3 : Value) (x : List Int × List Op3 × List Int) : Prop := IsInts w a1 x.1 ∧ IsOps w a2 x.2.1 ∧ IsInts w a3 x.2.2
theorem OuIs.below {w w1 : World} {a1 a2 a3 : Value} {x : List Int × List Op3 × List Int} (h : OuIs w a1 a2 a3 x) (hb : Below w.heap.size w w1) : OuIs w1 a1 a2 a3 x := ⟨h.1.below hb (Nat.le_refl _), h.2.1.below hb (Nat.le_refl _), h.2.2.below hb (Nat.le_refl _)⟩
theorem OuIs.slices {w : World} {a1 a2 a3 : Value} {x : List Int × List Op3 × List Int} (h : OuIs w a1 a2 a3 x) : (∃ ad n c, a1 = .slice ad n c) ∧ (∃ ad n c, a2 = .slice ad n c) ∧ ∃ ad n c, a3 = .slice ad n c := by
  obtain ⟨⟨d1, _, _, c1, e1, _⟩, ⟨d2, _, _, c2, e2, _⟩, ⟨d3, _, _, c3, e3, _⟩⟩ := h
  exact ⟨⟨d1, _, c1, e1⟩, ⟨d2, _, c2, e2⟩, ⟨d3, _, c3, e3⟩⟩
end Go.Proofs.Ytccjognnehoodag

namespace Go.Proofs.Ytccjognnehoodag
open Go.RowKit

theorem six_at (W : World) : IsOps (W.alloc (.cells #[.int .i64 1, .int .i64 1, .int .i64 1, .int .i64 2, .int .i64 1, .int .i64 2, .int .i64 1, .int .i64 2, .int .i64 2, .int .i64 2, .int .i64 2, .int .i64 1, .int .i64 1, .int .i64 3, .int .i64 0, .int .i64 2, .int .i64 3, .int .i64 0] 24)) (.slice (some ⟨W.heap.size, 0, none⟩) 6 6) one6 := by
  refine ⟨some ⟨W.heap.size, 0, none⟩, W.heap.size, 0, 6, rfl, fun _ => rfl, fun h => (by cases h), .inl (by simp), opsAt_of fun j u hj => ?_⟩
  rw [Nat.zero_add]
  match j, hj with
  | 0, hj => simp [flat, one6] at hj; subst hj; simp
  | 1, hj => simp [flat, one6] at hj; subst hj; simp
  | 2, hj => simp [flat, one6] at hj; subst hj; simp
  | 3, hj => simp [flat, one6] at hj; subst hj; simp
  | 4, hj => simp [flat, one6] at hj; subst hj; simp
  | 5, hj => simp [flat, one6] at hj; subst hj; simp
  | 6, hj => simp [flat, one6] at hj; subst hj; simp
  | 7, hj => simp [flat, one6] at hj; subst hj; simp
  | 8, hj => simp [flat, one6] at hj; subst hj; simp
  | 9, hj => simp [flat, one6] at hj; subst hj; simp
  | 10, hj => simp [flat, one6] at hj; subst hj; simp
  | 11, hj => simp [flat, one6] at hj; subst hj; simp
  | 12, hj => simp [flat, one6] at hj; subst hj; simp
  | 13, hj => simp [flat, one6] at hj; subst hj; simp
  | 14, hj => simp [flat, one6] at hj; subst hj; simp
  | 15, hj => simp [flat, one6] at hj; subst hj; simp
  | 16, hj => simp [flat, one6] at hj; subst hj; simp
  | 17, hj => simp [flat, one6] at hj; subst hj; simp
  | k + 18, hj => simp [flat, one6] at hj
set_option maxHeartbeats 16000000 in
set_option maxRecDepth 100000 in
theorem daser_any (hD : RunsC 11 3 okBtw false) (hP : PivC 12) (hS : RunsC 7 2 okS false) (l : List Op3) (v : Value) (w : World) (hI : IsOps w v l) :
    Calls Try.prog 4 #[v] w fun e w' => e = .returned (.bool true) ∧ Below w.heap.size w w' := by
  have HIE : Hid (∀ W, Below w.heap.size w W → IsOps W v l) := fun W hW => hI.below hW (Nat.le_refl _)
  have HONE : Hid (∀ W u, IsOps W u one6 → Calls Try.prog 11 #[u] W fun e w' => ∃ ad c a2 a3, e = .returned (.tuple #[.agg #[.slice ad 1 c, a2, a3], .nilIface]) ∧ (∃ ad n c, a2 = .slice ad n c) ∧ (∃ ad n c, a3 = .slice ad n c) ∧ Below W.heap.size W w') := fun W u hu => by
    refine (hD one6 u W hu).mono ?_
    rintro e w' ⟨a1, a2, a3, he, hi1, hi2, hi3, -, hb⟩
    rw [one6_done.2.1] at he
    rw [one6_done.1] at hi1
    obtain ⟨x1, b1, o1, c1, rfl, -⟩ := hi1
    refine ⟨x1, c1, a2, a3, he, ?_, ?_, hb⟩
    · obtain ⟨ad, _, _, cap, hv, _⟩ := hi2; exact ⟨ad, _, cap, hv⟩
    · obtain ⟨ad, _, _, cap, hv, _⟩ := hi3; exact ⟨ad, _, cap, hv⟩
  have HPON : Hid (∀ W u, IsOps W u one6 → Calls Try.prog 12 #[u] W fun e w' => ∃ ad c, e = .returned (.tuple #[.slice ad 2 c, .nilIface]) ∧ Below W.heap.size W w') := fun W u hu => by
    refine (hP one6 u W hu).mono ?_
    rintro e w' ⟨v', he, hi1, hb⟩
    rw [one6_done.2.2.2] at he
    rw [one6_done.2.2.1] at hi1
    obtain ⟨x1, b1, o1, c1, rfl, -⟩ := hi1
    exact ⟨x1, c1, he, hb⟩
  have HRD : Hid (∀ W, Below w.heap.size w W → Calls Try.prog 11 #[v] W fun e w' => ∃ a1 a2 a3, e = .returned (.tuple #[.agg #[a1, a2, a3], errV (outU 3 okBtw false l).2]) ∧ OuIs w' a1 a2 a3 (outU 3 okBtw false l).1 ∧ Room a1 ∧ Below W.heap.size W w') := fun W hW => (hD l v W (HIE.out W hW)).mono fun e w' ⟨a1, a2, a3, he, h1, h2, h3, h4, hb⟩ => ⟨a1, a2, a3, he, ⟨h1, h2, h3⟩, h4, hb⟩
  have HRS : Hid (∀ W, Below w.heap.size w W → Calls Try.prog 7 #[v] W fun e w' => ∃ a1 a2 a3, e = .returned (.tuple #[.agg #[a1, a2, a3], errV (outU 2 okS false l).2]) ∧ OuIs w' a1 a2 a3 (outU 2 okS false l).1 ∧ Room a1 ∧ Below W.heap.size W w') := fun W hW => (hS l v W (HIE.out W hW)).mono fun e w' ⟨a1, a2, a3, he, h1, h2, h3, h4, hb⟩ => ⟨a1, a2, a3, he, ⟨h1, h2, h3⟩, h4, hb⟩
  have HPV : Hid (∀ W, Below w.heap.size w W → Calls Try.prog 12 #[v] W fun e w' => ∃ v', e = .returned (.tuple #[v', errV (chk l).2]) ∧ IsInts w' v' (pivN l) ∧ Below W.heap.size W w') := fun W hW => hP l v W (HIE.out W hW)
  have HST : Hid (∀ W W', Below w.heap.size w W → Below W.heap.size W W' → Below w.heap.size w W') := fun W W' h1 h2 => h1.trans (h2.mono h1.size)
  obtain ⟨ad, b, off, cap, hv, -⟩ := hI
  subst hv
  clear hD hP hS
  go_enter Try.func4, Try.ntmps4
  go_wp2_with fail
  obtain ⟨W1, hW1⟩ : ∃ W, W = w.alloc (.cells #[.int .i64 1, .int .i64 1, .int .i64 1, .int .i64 2, .int .i64 1, .int .i64 2, .int .i64 1, .int .i64 2, .int .i64 2, .int .i64 2, .int .i64 2, .int .i64 1, .int .i64 1, .int .i64 3, .int .i64 0, .int .i64 2, .int .i64 3, .int .i64 0] 24) := ⟨_, rfl⟩
  have hon : IsOps W1 (.slice (some ⟨w.heap.size, 0, none⟩) 6 6) one6 := by rw [hW1]; exact six_at w
  rw [← hW1]
  have hb1 : Below w.heap.size w W1 := by rw [hW1]; exact (Below.refl _ w).alloc (Nat.le_refl _) _
  have HB1 := hid_s hb1
  have HON := hid_s hon
  obtain ⟨A, hA⟩ : ∃ A, A = w.heap.size := ⟨_, rfl⟩
  rw [← hA] at HON ⊢
  clear hW1 hon hb1 hA
  refine (HONE.out W1 _ HON.out).mono ?_
  rintro e w2 ⟨d1, c1, a2, a3, rfl, ⟨x2, y2, z2, rfl⟩, ⟨x3, y3, z3, rfl⟩, hb2⟩
  have HB2 := hid_s (HST.out _ _ HB1.out hb2)
  have HON2 := hid_s (HON.out.below hb2 (Nat.le_refl _))
  clear hb2
  go_upto_region 3 with (fail)
  obtain ⟨W3, hW3⟩ : ∃ W, W = w2.alloc (.cells #[.slice d1 1 c1, .slice x2 y2 z2, .slice x3 y3 z3] 28) := ⟨_, rfl⟩
  rw [← hW3]
  have hbn : Below w2.heap.size w2 W3 := by rw [hW3]; exact (Below.refl _ w2).alloc (Nat.le_refl _) _
  have HB3 := hid_s (HST.out _ _ HB2.out hbn)
  have HON3 := hid_s (HON2.out.below hbn (Nat.le_refl _))
  have p0 : W3.cell? ⟨w2.heap.size, 0, none⟩ = some (.slice d1 1 c1) := by rw [hW3]; simp
  obtain ⟨P, hPe⟩ : ∃ P, P = w2.heap.size := ⟨_, rfl⟩
  rw [← hPe] at p0 ⊢
  clear hW3 hPe hbn
  go_wp2_with fail
  refine (HPON.out W3 _ HON3.out).mono ?_
  rintro e w4 ⟨d4, c4, rfl, hb4⟩
  have HB4 := hid_s (HST.out _ _ HB3.out hb4)
  have p4 := (hb4.cell (p := ⟨P, 0, none⟩) (World.block_lt_of_cell? W3 _ p0)).trans p0
  clear hb4 p0
  go_upto_region 6 with (fail)
  clear p4
  by_cases hc : (chk l).2 = 0
  · have hev : errV (chk l).2 = .nilIface := by rw [hc]; exact if_pos rfl
    have hu3 := outU_len 3 okBtw false l
    have hu2 := outU_len 2 okS false l
    have hr3 := run_right 3 okBtw hc
    have hr2 := run_right 2 okS hc
    have hs3 := run_someIs 3 okBtw hc
    have hs2 := run_someIs 2 okS hc
    have hg3 := danger_good hc
    have hg2 := snap_good hc
    have hsm := danger_same hc
    have z3 : errV (outU 3 okBtw false l).2 = .nilIface := by rw [outU_ok hc]; exact if_pos rfl
    have z2 : errV (outU 2 okS false l).2 = .nilIface := by rw [outU_ok hc]; exact if_pos rfl
    have e31 : (outU 3 okBtw false l).1 = ((runK 3 okBtw l l.length).done, seenL (runK 3 okBtw l l.length).of (runK 3 okBtw l l.length).done, lastL (runK 3 okBtw l l.length).of (runK 3 okBtw l l.length).done) := by rw [outU_ok hc]; rfl
    have e21 : (outU 2 okS false l).1 = ((runK 2 okS l l.length).done, seenL (runK 2 okS l l.length).of (runK 2 okS l l.length).done, lastL (runK 2 okS l l.length).of (runK 2 okS l l.length).done) := by rw [outU_ok hc]; rfl
    rw [hev] at HPV
    rw [z3] at HRD
    rw [z2] at HRS
    have hsm1 : pivN l = [] → (outU 3 okBtw false l).1 = (outU 2 okS false l).1 := fun h => by rw [hsm h]
    rw [e31] at hu3 hsm1 HRD
    rw [e21] at hu2 hsm1 HRS
    obtain ⟨ds3, h31⟩ : ∃ d, (runK 3 okBtw l l.length).done = d := ⟨_, rfl⟩
    obtain ⟨of3, h32⟩ : ∃ d, (runK 3 okBtw l l.length).of = d := ⟨_, rfl⟩
    obtain ⟨ds2, h21⟩ : ∃ d, (runK 2 okS l l.length).done = d := ⟨_, rfl⟩
    obtain ⟨of2, h22⟩ : ∃ d, (runK 2 okS l l.length).of = d := ⟨_, rfl⟩
    have hq6 : (pivN l).length ≤ 6 := by unfold pivN; rw [if_neg (by simpa using hc)]; exact pivTo_len6 _
    rw [h31, h32] at hu3 hsm1 HRD hs3 hg3
    rw [h31] at hr3
    rw [h21, h22] at hu2 hsm1 HRS hs2 hg2
    rw [h21] at hr2
    obtain ⟨se3, h33⟩ : ∃ d, seenL of3 ds3 = d := ⟨_, rfl⟩
    obtain ⟨la3, h34⟩ : ∃ d, lastL of3 ds3 = d := ⟨_, rfl⟩
    obtain ⟨se2, h23⟩ : ∃ d, seenL of2 ds2 = d := ⟨_, rfl⟩
    obtain ⟨la2, h24⟩ : ∃ d, lastL of2 ds2 = d := ⟨_, rfl⟩
    rw [h33, h34] at hu3 hsm1 HRD hs3 hg3
    rw [h23, h24] at hu2 hsm1 HRS hs2 hg2
    simp only at hu3 hu2
    have HRT : Hid (∀ (ds se_ la : _) (W : World) (a1 a2 a3 : Value), RightB l ds → ds.length ≤ 6 → la.length = 6 → Below w.heap.size w W → OuIs W a1 a2 a3 (ds, se_, la) → Room a1 → Calls Try.prog 13 #[.slice ad l.length cap, .agg #[a1, a2, a3]] W fun e w' => e = .returned (.bool true) ∧ Below W.heap.size W w') := fun ds se_ la W a1 a2 a3 hr h6 hl6 hW ho hro =>
      right_any l _ a1 a2 a3 ds la W (HIE.out W hW) (by have := chk_len hc; omega) ho.1 ho.2.2 ho.slices.2.1 hro h6 hl6 hr
    have HSM : Hid (∀ (ds : List Int) (se_ : List Op3) (la : List Int) (W : World) (a1 a2 a3 : Value), SomeIs l se_ la ds → SomeGood l se_ la ds [] → Below w.heap.size w W → OuIs W a1 a2 a3 (ds, se_, la) → Calls Try.prog 14 #[.slice ad l.length cap, .agg #[a1, a2, a3], .slice none 0 0] W fun e w' => e = .returned (.bool true) ∧ Below W.heap.size W w') := fun ds se_ la W a1 a2 a3 hs hg hW ho =>
      (some_any hs ds.length [] _ a1 a2 a3 (.slice none 0 0) W (HIE.out W hW) ho.1 ho.2.1 ho.2.2 (isInts_nil _) (fun x hx => by cases hx) (by simp)).mono fun e w' ⟨⟨z, he, hz⟩, hb⟩ => ⟨by rw [he, hz hg], hb⟩
    have HR3 : Hid (∀ (W : World) (a1 a2 a3 : Value), Below w.heap.size w W → OuIs W a1 a2 a3 (ds3, se3, la3) → Room a1 → Calls Try.prog 13 #[.slice ad l.length cap, .agg #[a1, a2, a3]] W fun e w' => e = .returned (.bool true) ∧ Below W.heap.size W w') := fun W a1 a2 a3 hW ho hro => HRT.out ds3 se3 la3 W a1 a2 a3 hr3 hu3.1 hs3.lenL hW ho hro
    have HR2 : Hid (∀ (W : World) (a1 a2 a3 : Value), Below w.heap.size w W → OuIs W a1 a2 a3 (ds2, se2, la2) → Room a1 → Calls Try.prog 13 #[.slice ad l.length cap, .agg #[a1, a2, a3]] W fun e w' => e = .returned (.bool true) ∧ Below W.heap.size W w') := fun W a1 a2 a3 hW ho hro => HRT.out ds2 se2 la2 W a1 a2 a3 hr2 hu2.1 hs2.lenL hW ho hro
    have HS3 : Hid (∀ (W : World) (a1 a2 a3 : Value), Below w.heap.size w W → OuIs W a1 a2 a3 (ds3, se3, la3) → Calls Try.prog 14 #[.slice ad l.length cap, .agg #[a1, a2, a3], .slice none 0 0] W fun e w' => e = .returned (.bool true) ∧ Below W.heap.size W w') := fun W a1 a2 a3 hW ho => HSM.out ds3 se3 la3 W a1 a2 a3 hs3 hg3 hW ho
    have HS2 : Hid (pivN l = [] → ∀ (W : World) (a1 a2 a3 : Value), Below w.heap.size w W → OuIs W a1 a2 a3 (ds2, se2, la2) → Calls Try.prog 14 #[.slice ad l.length cap, .agg #[a1, a2, a3], .slice none 0 0] W fun e w' => e = .returned (.bool true) ∧ Below W.heap.size W w') := fun hp W a1 a2 a3 hW ho => HSM.out ds2 se2 la2 W a1 a2 a3 hs2 (hg2 hp) hW ho
    have HEQ := hid_s hsm1
    have HUL := hid_s hu2
    obtain ⟨pv, hpv⟩ : ∃ p, pivN l = p := ⟨_, rfl⟩
    rw [hpv] at HPV HS2 HEQ hq6
    clear hev hu3 hu2 hr3 hr2 hs3 hs2 hg3 hg2 hsm z3 z2 e31 e21 hsm1 h31 h32 h21 h22 h33 h34 h23 h24 hpv hc HRT HSM HONE HPON HON HON2 HON3
    go_wp2_with fail
    refine (HRD.out w4 HB4.out).mono ?_
    rintro e w5 ⟨a1, a2, a3, rfl, hou, hro, hb5⟩
    obtain ⟨⟨p1, p2, p3, rfl⟩, ⟨p4, p5, p6, rfl⟩, ⟨p7, p8, p9, rfl⟩⟩ := hou.slices
    have HO5 := hid_s hou
    have HRO5 := hid_s hro
    have HB5 := hid_s (HST.out _ _ HB4.out hb5)
    clear hou hro hb5
    go_upto_region 9 with (fail)
    obtain ⟨W6, hW6⟩ : ∃ W, W = w5.alloc (.cells #[.slice p1 p2 p3, .slice p4 p5 p6, .slice p7 p8 p9] 28) := ⟨_, rfl⟩
    rw [← hW6]
    have hn6 : Below w5.heap.size w5 W6 := by rw [hW6]; exact (Below.refl _ w5).alloc (Nat.le_refl _) _
    have hx6 : ObAt W6 w5.heap.size (.slice p1 p2 p3) (.slice p4 p5 p6) (.slice p7 p8 p9) := by rw [hW6]; exact obAt_new _ _ _ _ _
    have HO6 := hid_s (HO5.out.below hn6)
    have HB6 := hid_s (HST.out _ _ HB5.out hn6)
    obtain ⟨X, hX⟩ : ∃ X, X = w5.heap.size := ⟨_, rfl⟩
    rw [← hX] at hx6 ⊢
    have HX6 := hid_s hx6
    obtain ⟨u0, u1, u2⟩ := hx6
    clear hW6 hn6 hX
    go_wp2_with fail
    refine (HR3.out W6 _ _ _ HB6.out HO6.out HRO5.out).mono ?_
    rintro e w7 ⟨rfl, hb7⟩
    have HO7 := hid_s (HO6.out.below hb7)
    have HX7 := hid_s (HX6.out.below hb7)
    have HB7 := hid_s (HST.out _ _ HB6.out hb7)
    obtain ⟨t0, t1, t2⟩ := HX7.out
    clear hb7 u0 u1 u2
    go_wp2_with fail
    refine (HS3.out w7 _ _ _ HB7.out HO7.out).mono ?_
    rintro e w8 ⟨rfl, hb8⟩
    have HO8 := hid_s (HO7.out.below hb8)
    have HX8 := hid_s (HX7.out.below hb8)
    have HB8 := hid_s (HST.out _ _ HB7.out hb8)
    clear hb8 t0 t1 t2
    go_upto_region 11 with (fail)
    go_wp2_with fail
    refine (HRS.out w8 HB8.out).mono ?_
    rintro e w9 ⟨g1, g2, g3, rfl, hou, hro, hb9⟩
    obtain ⟨⟨q1, q2, q3, rfl⟩, ⟨q4, q5, q6, rfl⟩, ⟨q7, q8, q9, rfl⟩⟩ := hou.slices
    have HO9 : Hid (OuIs w9 (.slice p1 p2 p3) (.slice p4 p5 p6) (.slice p7 p8 p9) (ds3, se3, la3) ∧ OuIs w9 (.slice q1 q2 q3) (.slice q4 q5 q6) (.slice q7 q8 q9) (ds2, se2, la2)) := ⟨HO8.out.below hb9, hou⟩
    have HX9 := hid_s (HX8.out.below hb9)
    have HRO9 := hid_s hro
    have HB9 := hid_s (HST.out _ _ HB8.out hb9)
    clear hou hro hb9
    go_upto_region 12 with (fail)
    obtain ⟨W10, hW10⟩ : ∃ W, W = w9.alloc (.cells #[.slice q1 q2 q3, .slice q4 q5 q6, .slice q7 q8 q9] 28) := ⟨_, rfl⟩
    rw [← hW10]
    have hn10 : Below w9.heap.size w9 W10 := by rw [hW10]; exact (Below.refl _ w9).alloc (Nat.le_refl _) _
    have hy10 : ObAt W10 w9.heap.size (.slice q1 q2 q3) (.slice q4 q5 q6) (.slice q7 q8 q9) := by rw [hW10]; exact obAt_new _ _ _ _ _
    have HO10 : Hid (OuIs W10 (.slice p1 p2 p3) (.slice p4 p5 p6) (.slice p7 p8 p9) (ds3, se3, la3) ∧ OuIs W10 (.slice q1 q2 q3) (.slice q4 q5 q6) (.slice q7 q8 q9) (ds2, se2, la2)) := ⟨HO9.out.1.below hn10, HO9.out.2.below hn10⟩
    have HX10 := hid_s (HX9.out.below hn10)
    have HB10 := hid_s (HST.out _ _ HB9.out hn10)
    obtain ⟨Y, hY⟩ : ∃ Y, Y = w9.heap.size := ⟨_, rfl⟩
    rw [← hY] at hy10 ⊢
    have HY10 := hid_s hy10
    clear hW10 hn10 hY hy10
    go_wp2_with fail
    refine (HPV.out W10 HB10.out).mono ?_
    rintro e w11 ⟨v11, rfl, hi11, hb11⟩
    have HO11 : Hid (OuIs w11 (.slice p1 p2 p3) (.slice p4 p5 p6) (.slice p7 p8 p9) (ds3, se3, la3) ∧ OuIs w11 (.slice q1 q2 q3) (.slice q4 q5 q6) (.slice q7 q8 q9) (ds2, se2, la2)) := ⟨HO10.out.1.below hb11, HO10.out.2.below hb11⟩
    have HX11 := hid_s (HX10.out.below hb11)
    have HY11 := hid_s (HY10.out.below hb11)
    have HB11 := hid_s (HST.out _ _ HB10.out hb11)
    obtain ⟨x11, b11, o11, c11, rfl, -⟩ := hi11
    obtain ⟨y0, y1, y2⟩ := HY11.out
    obtain ⟨m, hm⟩ : ∃ m, pv.length = m := ⟨_, rfl⟩
    rw [hm] at hq6
    rw [hm]
    have HM := hid_s hm
    clear hb11 hm
    go_wp2_with fail
    refine (HR2.out w11 _ _ _ HB11.out HO11.out.2 HRO9.out).mono ?_
    rintro e w12 ⟨rfl, hb12⟩
    have HO12 : Hid (OuIs w12 (.slice p1 p2 p3) (.slice p4 p5 p6) (.slice p7 p8 p9) (ds3, se3, la3) ∧ OuIs w12 (.slice q1 q2 q3) (.slice q4 q5 q6) (.slice q7 q8 q9) (ds2, se2, la2)) := ⟨HO11.out.1.below hb12, HO11.out.2.below hb12⟩
    have HX12 := hid_s (HX11.out.below hb12)
    have HY12 := hid_s (HY11.out.below hb12)
    have HB12 := hid_s (HST.out _ _ HB11.out hb12)
    clear hb12 y0 y1 y2
    obtain ⟨y0, y1, y2⟩ := HY12.out
    by_cases hm0 : m = 0
    · have hpe : pv = [] := List.length_eq_zero_iff.1 (by rw [HM.out]; exact hm0)
      have HSS := hid_s (HS2.out hpe)
      have HEE := hid_s (HEQ.out hpe)
      subst hm0
      clear hpe
      go_upto_region 15 with (fail)
      go_wp2_with fail
      refine (HSS.out w12 _ _ _ HB12.out HO12.out.2).mono ?_
      rintro e w13 ⟨rfl, hb13⟩
      have HO13 : Hid (OuIs w13 (.slice q1 q2 q3) (.slice q4 q5 q6) (.slice q7 q8 q9) (ds2, se2, la2) ∧ OuIs w13 (.slice p1 p2 p3) (.slice p4 p5 p6) (.slice p7 p8 p9) (ds2, se2, la2)) := ⟨HO12.out.2.below hb13, by have h9 := HO12.out.1.below hb13; rw [HEE.out] at h9; exact h9⟩
      have HB13 := hid_s (HST.out _ _ HB12.out hb13)
      obtain ⟨v0, v1, v2⟩ := HX12.out.below hb13
      obtain ⟨k0, k1, k2⟩ := HY12.out.below hb13
      clear hb13 y0 y1 y2
      go_wp2_with fail
      have hle := HUL.out
      refine (same_outcome ds2 se2 la2 _ _ _ _ _ _ w13 HO13.out.1.1 HO13.out.1.2.1 HO13.out.1.2.2 HO13.out.2.1 HO13.out.2.2.1 HO13.out.2.2.2 (by omega) (by omega) (by omega)).mono ?_
      rintro e w14 ⟨rfl, hb14⟩
      have HB14 := hid_s (HST.out _ _ HB13.out hb14)
      clear hb14 hle v0 v1 v2 k0 k1 k2
      go_wp2_with fail
      go_ret
      exact ⟨rfl, HB14.out⟩
    · have hm1 : (0 : Int) < (m : Int) := by omega
      go_upto_region 15 with (fail)
      go_wp2_with fail
      go_ret
      exact ⟨rfl, HB12.out⟩
  · have hev := errV_ne hc
    have z3 : errV (outU 3 okBtw false l).2 = errV (chk l).2 := by rw [outU_bad hc]
    rw [z3, hev] at HRD
    obtain ⟨ce, hce⟩ : ∃ ce, (chk l).2 = ce := ⟨_, rfl⟩
    rw [hce] at HRD
    clear hev hc hce z3 HONE HPON HON HON2 HON3
    go_wp2_with fail
    refine (HRD.out w4 HB4.out).mono ?_
    rintro e w5 ⟨a1, a2, a3, rfl, hou, hro, hb5⟩
    obtain ⟨⟨p1, p2, p3, rfl⟩, ⟨p4, p5, p6, rfl⟩, ⟨p7, p8, p9, rfl⟩⟩ := hou.slices
    have HB5 := hid_s (HST.out _ _ HB4.out hb5)
    have HB6 : Hid (∀ ob : Obj, Below w.heap.size w (w5.alloc ob)) := fun ob => HST.out _ _ HB5.out ((Below.refl _ w5).alloc (Nat.le_refl _) ob)
    clear hou hro hb5
    go_wp2_with fail
    go_ret
    exact ⟨rfl, HB6.out _⟩
end Go.Proofs.Ytccjognnehoodag
