/-
  PROVED HERE: lanelaw3.IllsTell answers true, of any ops, over whatever keeps IllsOfC and IllsFirstC.
  Conditions: these; the slice is no longer than its capacity; the variable errors.errorType holds the handle of the type error.
-/
import Derived.Test.YtjcaekhkeobhpahDoorIllsAsk
import Derived.Test.YtjcaekhkeobhpahDoorRefIlls
import Derived.Test.YtjcaekhkeobhpahDoorRefHist
import Derived.Test.YtjcaekhkeobhpahDoorTold
namespace Go.Proofs.YtjcaekhkeobhpahDoor
open Go.RowKit

theorem err_i (n : Int) (w : World) (hg : EtAt w) : Calls Tryd.prog 9 #[errV n, .int .i64 n] w fun e w' => e = .returned (.bool true) ∧ Below w.heap.size w w' := by
  by_cases h : n = 0
  · subst h
    exact (error_nil 0 w).mono fun _ _ ⟨he, hw⟩ => ⟨he, by rw [hw]; exact Below.refl _ _⟩
  · have e0 : errV n = .iface 59 (.int .i64 n) := by unfold errV; rw [if_neg h]
    rw [e0]
    exact (error_hit n n w hg).mono fun _ _ ⟨he, hw⟩ => ⟨by rw [he]; simp, hw⟩
theorem errV_two (n : Int) : errV n = .nilIface ∨ errV n = .iface 59 (.int .i64 n) := by
  unfold errV
  split
  · exact .inl rfl
  · exact .inr rfl
set_option maxHeartbeats 16000000 in
set_option maxRecDepth 100000 in
theorem itell_any (hOf : IllsOfC) (hFi : IllsFirstC) (l : List Op3) (ad : Option Addr) (cap : Nat) (w : World) (hI : IsOps w (.slice ad l.length cap) l) (hcap : l.length ≤ cap) (hg : EtAt w) :
    Calls Tryd.prog 3 #[.slice ad l.length cap] w fun e w' => e = .returned (.bool true) ∧ Below w.heap.size w w' := by
  have HIE : Hid (∀ W, Below w.heap.size w W → IsOps W (.slice ad l.length cap) l ∧ EtAt W) := fun W hW => ⟨hI.below hW (Nat.le_refl _), hg.below hW hg.lt⟩
  have HST : Hid (∀ W W', Below w.heap.size w W → Below W.heap.size W W' → Below w.heap.size w W') := fun W W' h1 h2 => h1.trans (h2.mono h1.size)
  have HRR := hid_i (refRight_any l _ w hI)
  have HIL : Hid ((chk l).2 = 0 → ∀ W, Below w.heap.size w W → _) := fun hc W hW => refIlls_any l _ W (HIE.out W hW).1 hc
  have HOF : Hid (∀ W, Below w.heap.size w W → Calls Tryd.prog 8 #[.slice ad l.length cap] W fun e w' => e = .returned (.tuple #[illsV (illsU l), errV (chk l).2]) ∧ Below W.heap.size W w') := fun W hW => hOf l ad cap W (HIE.out W hW).1 hcap
  have HFI : Hid (∀ W, Below w.heap.size w W → Calls Tryd.prog 10 #[.slice ad l.length cap] W fun e w' => e = .returned (.tuple #[.int .i64 (firstU l).1, errV (firstU l).2]) ∧ Below W.heap.size W w') := fun W hW => hFi l ad cap W (HIE.out W hW).1 hcap
  have HER : Hid (∀ n W, Below w.heap.size w W → Calls Tryd.prog 9 #[errV n, .int .i64 n] W fun e w' => e = .returned (.bool true) ∧ Below W.heap.size W w') := fun n W hW => err_i n W (HIE.out W hW).2
  /- from where want and what is first stand -/
  clear hOf hFi hg hI
  by_cases hc : (chk l).2 = 0
  · have hU : illsU l = (illsR l).1 := by unfold illsU; rw [if_neg (by rw [hc]; decide)]
    have hF : firstU l = if (illsR l).2 < 0 then (0, 5) else ((illsR l).2, 0) := by unfold firstU; rw [if_neg (by rw [hc]; decide)]
    have HIL2 := hid_i (HIL.out hc)
    rw [hU, hc] at HOF
    rw [hF] at HFI
    rw [hc] at HRR
    have HE0 : Hid (∀ W, Below w.heap.size w W → Calls Tryd.prog 9 #[.nilIface, .int .i64 0] W fun e w' => e = .returned (.bool true) ∧ Below W.heap.size W w') := HER.out 0
    have HE5 : Hid (∀ W, Below w.heap.size w W → Calls Tryd.prog 9 #[.iface 59 (.int .i64 5), .int .i64 5] W fun e w' => e = .returned (.bool true) ∧ Below W.heap.size W w') := HER.out 5
    obtain ⟨⟨⟨b0, b1, b2, b3⟩, f⟩, hr⟩ : ∃ r, illsR l = r := ⟨_, rfl⟩
    rw [hr] at HIL2 HOF HFI
    simp only [illsV] at HIL2 HOF HFI
    have HO0 : Hid (∀ W, Below w.heap.size w W → Calls Tryd.prog 8 #[.slice ad l.length cap] W fun e w' => e = .returned (.tuple #[.agg #[.bool b0, .bool b1, .bool b2, .bool b3], .nilIface]) ∧ Below W.heap.size W w') := HOF.out
    clear hU hF HIL HER hr hc HOF
    go_enter Tryd.func3, Tryd.ntmps3
    go_wp2_with fail
    refine HRR.out.mono ?_
    rintro e w1 ⟨rfl, hb1⟩
    have HB1 := hid_i hb1
    clear hb1
    go_upto_region 6 with (fail)
    obtain ⟨W2, hW2⟩ : ∃ W, W = w1.alloc (.cells #[.bool false, .bool false, .bool false, .bool false] 25) := ⟨_, rfl⟩
    rw [← hW2]
    have hbn : Below w1.heap.size w1 W2 := by rw [hW2]; exact (Below.refl _ w1).alloc (Nat.le_refl _) _
    have hres : W2.heap[w1.heap.size]? = some (.cells #[.bool false, .bool false, .bool false, .bool false] 25 (0, 0)) := by rw [hW2]; exact World.alloc_heap_new w1 _
    have HB2 := hid_i (HST.out _ _ HB1.out hbn)
    have HNP : Hid (w.heap.size ≤ w1.heap.size) := HB1.out.size
    obtain ⟨P, hP⟩ : ∃ P, P = w1.heap.size := ⟨_, rfl⟩
    rw [← hP] at hres HNP ⊢
    have HRS := hid_i hres
    have HPL : Hid (P < W2.heap.size) := (Array.getElem?_eq_some_iff.1 hres).1
    clear hW2 hbn hP hres
    go_wp2_with fail
    refine (HIL2.out W2 HB2.out).mono ?_
    rintro e w3 ⟨rfl, hb3⟩
    have hr3 := (hb3.block P HPL.out).trans HRS.out
    have HB3 := hid_i (HST.out _ _ HB2.out hb3)
    have v0 : w3.cell? ⟨P, 0, none⟩ = some (.bool false) := by rw [cell_of_row w3 P _ _ _ _ hr3]; rfl
    have v1 : w3.cell? ⟨P, 1, none⟩ = some (.bool false) := by rw [cell_of_row w3 P _ _ _ _ hr3]; rfl
    have v2 : w3.cell? ⟨P, 2, none⟩ = some (.bool false) := by rw [cell_of_row w3 P _ _ _ _ hr3]; rfl
    have v3 : w3.cell? ⟨P, 3, none⟩ = some (.bool false) := by rw [cell_of_row w3 P _ _ _ _ hr3]; rfl
    have y0 : w3.frozen? ⟨P, 0, none⟩ = false := by simp [World.frozen?, hr3]
    have y1 : w3.frozen? ⟨P, 1, none⟩ = false := by simp [World.frozen?, hr3]
    have y2 : w3.frozen? ⟨P, 2, none⟩ = false := by simp [World.frozen?, hr3]
    have y3 : w3.frozen? ⟨P, 3, none⟩ = false := by simp [World.frozen?, hr3]
    obtain ⟨W4, hW4⟩ : ∃ W, W = (((w3.setCell ⟨P, 0, none⟩ (.bool b0)).setCell ⟨P, 1, none⟩ (.bool b1)).setCell ⟨P, 2, none⟩ (.bool b2)).setCell ⟨P, 3, none⟩ (.bool b3) := ⟨_, rfl⟩
    have HX4 : Hid (IlBox W4 P (b0, b1, b2, b3)) := by
      have hb4 : W4.heap[P]? = some (.cells #[.bool b0, .bool b1, .bool b2, .bool b3] 25 (0, 0)) := by rw [hW4, block_setI (block_setI (block_setI (block_setI hr3)))]; rfl
      refine ⟨?_, ?_, ?_, ?_⟩ <;> rw [cell_of_row W4 P _ _ _ _ hb4] <;> rfl
    have HB4 : Hid (Below w.heap.size w W4) := by show Below _ _ _; rw [hW4]; exact (((HB3.out.setCell HNP.out _).setCell HNP.out _).setCell HNP.out _).setCell HNP.out _
    clear hb3 hr3
    go_upto_region 7 with (fail)
    rw [← hW4]
    clear hW4 v0 v1 v2 v3 y0 y1 y2 y3
    by_cases hneg : f < 0
    · rw [if_pos hneg] at HFI
      simp only at HFI
      have HF5 : Hid (∀ W, Below w.heap.size w W → Calls Tryd.prog 10 #[.slice ad l.length cap] W fun e w' => e = .returned (.tuple #[.int .i64 0, .iface 59 (.int .i64 5)]) ∧ Below W.heap.size W w') := HFI.out
      clear HFI
      go_wp2_with fail
      refine (HO0.out W4 HB4.out).mono ?_
      rintro e w5 ⟨rfl, hb5⟩
      have HX5 := hid_i (HX4.out.below hb5)
      have HB5 := hid_i (HST.out _ _ HB4.out hb5)
      clear hb5
      go_upto_region 11 with (fail)
      obtain ⟨W6, hW6⟩ : ∃ W, W = w5.alloc (.cells #[.bool b0, .bool b1, .bool b2, .bool b3] 25) := ⟨_, rfl⟩
      rw [← hW6]
      have hbn : Below w5.heap.size w5 W6 := by rw [hW6]; exact (Below.refl _ w5).alloc (Nat.le_refl _) _
      have HX6 := hid_i (HX5.out.below hbn)
      have HY6 : Hid (IlBox W6 w5.heap.size (b0, b1, b2, b3)) := by show IlBox _ _ _; rw [hW6]; exact ilBox_new _ _ _ _ _ _
      have HB6 := hid_i (HST.out _ _ HB5.out hbn)
      obtain ⟨Q, hQ⟩ : ∃ Q, Q = w5.heap.size := ⟨_, rfl⟩
      rw [← hQ] at HY6 ⊢
      clear hW6 hbn hQ
      go_wp2_with fail
      refine (HE0.out W6 HB6.out).mono ?_
      rintro e w7 ⟨rfl, hb7⟩
      have HB7 := hid_i (HST.out _ _ HB6.out hb7)
      obtain ⟨x0, x1, x2, x3⟩ := HX6.out.below hb7
      obtain ⟨z0, z1, z2, z3⟩ := HY6.out.below hb7
      simp only at x0 x1 x2 x3 z0 z1 z2 z3
      clear hb7
      go_wp2_with fail
      refine (HF5.out w7 HB7.out).mono ?_
      rintro e w8 ⟨rfl, hb8⟩
      have HB8 := hid_i (HST.out _ _ HB7.out hb8)
      clear hb8 x0 x1 x2 x3 z0 z1 z2 z3
      go_wp2_with fail
      refine (HE5.out w8 HB8.out).mono ?_
      rintro e w9 ⟨rfl, hb9⟩
      have HB9 := hid_i (HST.out _ _ HB8.out hb9)
      clear hb9
      go_wp2_with fail
      go_ret
      exact ⟨rfl, HB9.out⟩
    · rw [if_neg hneg] at HFI
      simp only at HFI
      have HF5 : Hid (∀ W, Below w.heap.size w W → Calls Tryd.prog 10 #[.slice ad l.length cap] W fun e w' => e = .returned (.tuple #[.int .i64 f, .nilIface]) ∧ Below W.heap.size W w') := HFI.out
      clear HFI
      go_wp2_with fail
      refine (HO0.out W4 HB4.out).mono ?_
      rintro e w5 ⟨rfl, hb5⟩
      have HX5 := hid_i (HX4.out.below hb5)
      have HB5 := hid_i (HST.out _ _ HB4.out hb5)
      clear hb5
      go_upto_region 11 with (fail)
      obtain ⟨W6, hW6⟩ : ∃ W, W = w5.alloc (.cells #[.bool b0, .bool b1, .bool b2, .bool b3] 25) := ⟨_, rfl⟩
      rw [← hW6]
      have hbn : Below w5.heap.size w5 W6 := by rw [hW6]; exact (Below.refl _ w5).alloc (Nat.le_refl _) _
      have HX6 := hid_i (HX5.out.below hbn)
      have HY6 : Hid (IlBox W6 w5.heap.size (b0, b1, b2, b3)) := by show IlBox _ _ _; rw [hW6]; exact ilBox_new _ _ _ _ _ _
      have HB6 := hid_i (HST.out _ _ HB5.out hbn)
      obtain ⟨Q, hQ⟩ : ∃ Q, Q = w5.heap.size := ⟨_, rfl⟩
      rw [← hQ] at HY6 ⊢
      clear hW6 hbn hQ
      go_wp2_with fail
      refine (HE0.out W6 HB6.out).mono ?_
      rintro e w7 ⟨rfl, hb7⟩
      have HB7 := hid_i (HST.out _ _ HB6.out hb7)
      obtain ⟨x0, x1, x2, x3⟩ := HX6.out.below hb7
      obtain ⟨z0, z1, z2, z3⟩ := HY6.out.below hb7
      simp only at x0 x1 x2 x3 z0 z1 z2 z3
      clear hb7
      go_wp2_with fail
      refine (HF5.out w7 HB7.out).mono ?_
      rintro e w8 ⟨rfl, hb8⟩
      have HB8 := hid_i (HST.out _ _ HB7.out hb8)
      clear hb8 x0 x1 x2 x3 z0 z1 z2 z3
      go_wp2_with fail
      refine (HE0.out w8 HB8.out).mono ?_
      rintro e w9 ⟨rfl, hb9⟩
      have HB9 := hid_i (HST.out _ _ HB8.out hb9)
      clear hb9
      go_wp2_with fail
      go_ret
      exact ⟨rfl, HB9.out⟩
  · have hU : illsU l = (false, false, false, false) := by unfold illsU; rw [if_pos hc]
    have hF : firstU l = (0, (chk l).2) := by unfold firstU; rw [if_pos hc]
    rw [hU] at HOF
    rw [hF] at HFI
    have e0 : errV (chk l).2 = .iface 59 (.int .i64 (chk l).2) := by unfold errV; rw [if_neg hc]
    have HE0 := hid_i (HER.out (chk l).2)
    simp only at HFI
    rw [e0] at HOF HFI HE0
    obtain ⟨n, hn⟩ : ∃ n, (chk l).2 = n := ⟨_, rfl⟩
    have hn0 : (n == 0) = false := by rw [← hn]; simpa using hc
    rw [hn] at HOF HFI HE0 HRR
    have HO0 : Hid (∀ W, Below w.heap.size w W → Calls Tryd.prog 8 #[.slice ad l.length cap] W fun e w' => e = .returned (.tuple #[.agg #[.bool false, .bool false, .bool false, .bool false], .iface 59 (.int .i64 n)]) ∧ Below W.heap.size W w') := HOF.out
    have HF5 : Hid (∀ W, Below w.heap.size w W → Calls Tryd.prog 10 #[.slice ad l.length cap] W fun e w' => e = .returned (.tuple #[.int .i64 0, .iface 59 (.int .i64 n)]) ∧ Below W.heap.size W w') := HFI.out
    clear hU hF e0 hn hc HOF HFI HIL HER
    go_enter Tryd.func3, Tryd.ntmps3
    go_wp2_with fail
    refine HRR.out.mono ?_
    rintro e w1 ⟨rfl, hb1⟩
    have HB1 := hid_i hb1
    clear hb1
    go_upto_region 3 with (fail)
    obtain ⟨W4, hW4⟩ : ∃ W, W = w1.alloc (.cells #[.bool false, .bool false, .bool false, .bool false] 25) := ⟨_, rfl⟩
    rw [← hW4]
    have hbn : Below w1.heap.size w1 W4 := by rw [hW4]; exact (Below.refl _ w1).alloc (Nat.le_refl _) _
    have HX4 : Hid (IlBox W4 w1.heap.size (false, false, false, false)) := by show IlBox _ _ _; rw [hW4]; exact ilBox_new _ _ _ _ _ _
    have HB4 := hid_i (HST.out _ _ HB1.out hbn)
    obtain ⟨P, hP⟩ : ∃ P, P = w1.heap.size := ⟨_, rfl⟩
    rw [← hP] at HX4 ⊢
    clear hW4 hbn hP
    go_wp2_with fail
    refine (HO0.out W4 HB4.out).mono ?_
    rintro e w5 ⟨rfl, hb5⟩
    have HX5 := hid_i (HX4.out.below hb5)
    have HB5 := hid_i (HST.out _ _ HB4.out hb5)
    clear hb5
    go_upto_region 11 with (fail)
    obtain ⟨W6, hW6⟩ : ∃ W, W = w5.alloc (.cells #[.bool false, .bool false, .bool false, .bool false] 25) := ⟨_, rfl⟩
    rw [← hW6]
    have hbn : Below w5.heap.size w5 W6 := by rw [hW6]; exact (Below.refl _ w5).alloc (Nat.le_refl _) _
    have HX6 := hid_i (HX5.out.below hbn)
    have HY6 : Hid (IlBox W6 w5.heap.size (false, false, false, false)) := by show IlBox _ _ _; rw [hW6]; exact ilBox_new _ _ _ _ _ _
    have HB6 := hid_i (HST.out _ _ HB5.out hbn)
    obtain ⟨Q, hQ⟩ : ∃ Q, Q = w5.heap.size := ⟨_, rfl⟩
    rw [← hQ] at HY6 ⊢
    clear hW6 hbn hQ
    go_wp2_with fail
    refine (HE0.out W6 HB6.out).mono ?_
    rintro e w7 ⟨rfl, hb7⟩
    have HB7 := hid_i (HST.out _ _ HB6.out hb7)
    obtain ⟨x0, x1, x2, x3⟩ := HX6.out.below hb7
    obtain ⟨z0, z1, z2, z3⟩ := HY6.out.below hb7
    simp only at x0 x1 x2 x3 z0 z1 z2 z3
    clear hb7
    go_wp2_with fail
    refine (HF5.out w7 HB7.out).mono ?_
    rintro e w8 ⟨rfl, hb8⟩
    have HB8 := hid_i (HST.out _ _ HB7.out hb8)
    clear hb8 x0 x1 x2 x3 z0 z1 z2 z3
    go_wp2_with fail
    refine (HE0.out w8 HB8.out).mono ?_
    rintro e w9 ⟨rfl, hb9⟩
    have HB9 := hid_i (HST.out _ _ HB8.out hb9)
    clear hb9
    go_wp2_with fail
    go_ret
    exact ⟨rfl, HB9.out⟩
end Go.Proofs.YtjcaekhkeobhpahDoor
