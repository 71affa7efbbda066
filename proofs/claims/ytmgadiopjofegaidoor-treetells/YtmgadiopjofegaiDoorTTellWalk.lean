/-
  PROVED HERE: lanelaw3.TreeTells answers true, of any tree and grips, over whatever keeps TCheckC, TLegalC and TEdgesC.
  Conditions: these; the variable errors.errorType holds the handle of the type error.
-/
import Derived.Test.YtmgadiopjofegaiDoorTreeAsk
import Derived.Test.YtmgadiopjofegaiDoorRefGrips
import Derived.Test.YtmgadiopjofegaiDoorRefGripE
import Derived.Test.YtmgadiopjofegaiDoorSameEdges
import Derived.Test.YtmgadiopjofegaiDoorTold
namespace Go.Proofs.YtmgadiopjofegaiDoor
open Go.RowKit

theorem err_g (n : Int) (w : World) (hg : EtAt w) : Calls Tryd.prog 6 #[errV n, .int .i64 n] w fun e w' => e = .returned (.bool true) ∧ Below w.heap.size w w' := by
  by_cases h : n = 0
  · subst h
    exact (error_nil 0 w).mono fun _ _ ⟨he, hw⟩ => ⟨he, by rw [hw]; exact Below.refl _ _⟩
  · have e0 : errV n = .iface 44 (.int .i64 n) := by unfold errV; rw [if_neg h]
    rw [e0]
    exact (error_hit n n w hg).mono fun _ _ ⟨he, hw⟩ => ⟨by rw [he]; simp, hw⟩
theorem legal_six {up : List Int} {l : List Grip3} (hL : Legal up l) : ∀ i, i < l.length → 1 ≤ (gAt l i).1 ∧ (gAt l i).1 ≤ 6 := fun i hi => by
  have h := hL i hi
  obtain ⟨⟨t, x, b⟩, hg⟩ : ∃ g, gAt l i = g := ⟨_, rfl⟩
  rw [hg] at h ⊢
  by_cases hd : dealB t = true
  · simp only
    simp [dealB] at hd
    omega
  · rw [gE_range (.inl (by simpa using hd))] at h
    cases h
set_option maxHeartbeats 16000000 in
set_option maxRecDepth 100000 in
theorem ttell_any (hC : TCheckC) (hLe : TLegalC) (hE : TEdgesC) (up : List Int) (l : List Grip3) (vu vl : Value) (w : World) (hU : IsInts w vu up) (hI : IsGrips w vl l) (hg : EtAt w) :
    Calls Tryd.prog 3 #[vu, vl] w fun e w' => e = .returned (.bool true) ∧ Below w.heap.size w w' := by
  have HST : Hid (∀ W W', Below w.heap.size w W → Below W.heap.size W W' → Below w.heap.size w W') := fun W W' h1 h2 => h1.trans (h2.mono h1.size)
  have HER : Hid (∀ n W, Below w.heap.size w W → Calls Tryd.prog 6 #[errV n, .int .i64 n] W fun e w' => e = .returned (.bool true) ∧ Below W.heap.size W w') := fun n W hW => err_g n W (hg.below hW hg.lt)
  have HTR := hid_r (refTree_any up vu w hU)
  have HCH := hid_r (hC up vu w hU)
  have HGR : Hid (∀ W, Below w.heap.size w W → Calls Tryd.prog 8 #[vu, vl] W fun e w' => e = .returned (.tuple #[.int .i64 (gripsR up l).1, .int .i64 (gripsR up l).2]) ∧ Below W.heap.size W w') := fun W hW => refGrips_any up l vu vl W (hU.below hW (Nat.le_refl _)) (hI.below hW (Nat.le_refl _))
  have HLG : Hid (∀ W, Below w.heap.size w W → Calls Tryd.prog 9 #[vu, vl] W fun e w' => e = .returned (.tuple #[.int .i64 (gripsR up l).1, errV (gripsR up l).2]) ∧ Below W.heap.size W w') := fun W hW => hLe up l vu vl W (hU.below hW (Nat.le_refl _)) (hI.below hW (Nat.le_refl _))
  have HED : Hid (∀ W, Below w.heap.size w W → Calls Tryd.prog 11 #[vu, vl] W fun e w' => ∃ v', e = .returned (.tuple #[v', errV (gripsR up l).2]) ∧ IsEdges w' v' (if (gripsR up l).2 ≠ 0 then [] else gripL l) ∧ Below W.heap.size W w') := fun W hW => hE up l vu vl W (hU.below hW (Nat.le_refl _)) (hI.below hW (Nat.le_refl _))
  have HGE : Hid (l.length ≤ 40 → ∀ W, Below w.heap.size w W → Calls Tryd.prog 10 #[vl] W fun e w' => ∃ v', e = .returned v' ∧ IsEdges w' v' (gAll l l.length) ∧ Below W.heap.size W w') := fun h4 W hW => refGripE_any l vl W (hI.below hW (Nat.le_refl _)) h4
  have HER1 : Hid (∀ W, Below w.heap.size w W → Calls Tryd.prog 6 #[errV (treeE up), .int .i64 (treeE up)] W fun e w' => e = .returned (.bool true) ∧ Below W.heap.size W w') := HER.out (treeE up)
  have HER2 : Hid (∀ W, Below w.heap.size w W → Calls Tryd.prog 6 #[errV (gripsR up l).2, .int .i64 (gripsR up l).2] W fun e w' => e = .returned (.bool true) ∧ Below W.heap.size W w') := HER.out (gripsR up l).2
  obtain ⟨ad1, b1, o1, c1, hv1, -⟩ := hU
  subst hv1
  obtain ⟨ad2, b2, o2, c2, hv2, -⟩ := hI
  subst hv2
  clear hC hLe hE hg HER
  obtain ⟨te, hte⟩ : ∃ n, treeE up = n := ⟨_, rfl⟩
  obtain ⟨ev1, hev1⟩ : ∃ v, errV te = v := ⟨_, rfl⟩
  rw [hte] at HTR HCH HER1
  rw [hev1] at HCH HER1
  clear hte hev1
  by_cases hc : (gripsR up l).2 = 0
  · obtain ⟨-, h40, hLg, hgr⟩ := legal_of hc
    have HGE2 := hid_r (HGE.out h40)
    rw [gAll_grip (legal_six hLg)] at HGE2
    rw [hc, if_neg (by decide)] at HED
    rw [hgr] at HGR HLG HER2
    simp only at HGR HLG HER2
    have HE2 : Hid (∀ W, Below w.heap.size w W → Calls Tryd.prog 11 #[.slice ad1 up.length c1, .slice ad2 l.length c2] W fun e w' => ∃ v', e = .returned (.tuple #[v', .nilIface]) ∧ IsEdges w' v' (gripL l) ∧ Below W.heap.size W w') := HED.out
    have HL2 : Hid (∀ W, Below w.heap.size w W → Calls Tryd.prog 9 #[.slice ad1 up.length c1, .slice ad2 l.length c2] W fun e w' => e = .returned (.tuple #[.int .i64 0, .nilIface]) ∧ Below W.heap.size W w') := HLG.out
    have HR2 : Hid (∀ W, Below w.heap.size w W → Calls Tryd.prog 6 #[.nilIface, .int .i64 0] W fun e w' => e = .returned (.bool true) ∧ Below W.heap.size W w') := HER2.out
    have HSM : Hid (∀ W v u, IsEdges W v (gripL l) → IsEdges W u (gripL l) → Calls Tryd.prog 12 #[v, u] W fun e w' => e = .returned (.bool true) ∧ Below W.heap.size W w') := fun W v u h1 h2 => same_edges _ v u W h1 h2 (by have := gripL_len l; omega)
    obtain ⟨x, hx⟩ : ∃ x, gripL l = x := ⟨_, rfl⟩
    rw [hx] at HE2 HGE2 HSM
    clear hc h40 hLg hgr HGE HED HLG HER2 hx
    go_enter Tryd.func3, Tryd.ntmps3
    go_wp2_with fail
    refine HTR.out.mono ?_
    rintro e w1 ⟨rfl, hw1⟩
    rw [hw1]
    clear hw1
    go_wp2_with fail
    refine HCH.out.mono ?_
    rintro e w2 ⟨rfl, hb2⟩
    have HB2 := hid_r hb2
    clear hb2
    go_wp2_with fail
    refine (HER1.out w2 HB2.out).mono ?_
    rintro e w3 ⟨rfl, hb3⟩
    have HB3 := hid_r (HST.out _ _ HB2.out hb3)
    clear hb3
    go_wp2_with fail
    refine (HGR.out w3 HB3.out).mono ?_
    rintro e w4 ⟨rfl, hb4⟩
    have HB4 := hid_r (HST.out _ _ HB3.out hb4)
    clear hb4
    go_wp2_with fail
    refine (HL2.out w4 HB4.out).mono ?_
    rintro e w5 ⟨rfl, hb5⟩
    have HB5 := hid_r (HST.out _ _ HB4.out hb5)
    clear hb5
    go_wp2_with fail
    refine (HR2.out w5 HB5.out).mono ?_
    rintro e w6 ⟨rfl, hb6⟩
    have HB6 := hid_r (HST.out _ _ HB5.out hb6)
    clear hb6
    go_wp2_with fail
    refine (HGE2.out w6 HB6.out).mono ?_
    rintro e w7 ⟨v7, rfl, hi7, hb7⟩
    have HI7 := hid_r hi7
    have HB7 := hid_r (HST.out _ _ HB6.out hb7)
    obtain ⟨ad7, b7, o7, c7, hv7, -⟩ := hi7
    subst hv7
    clear hb7
    go_wp2_with fail
    refine (HE2.out w7 HB7.out).mono ?_
    rintro e w8 ⟨v8, rfl, hi8, hb8⟩
    have HI8 := hid_r hi8
    have HJ8 := hid_r (HI7.out.below hb8 (Nat.le_refl _))
    have HB8 := hid_r (HST.out _ _ HB7.out hb8)
    obtain ⟨ad8, b8, o8, c8, hv8, -⟩ := hi8
    subst hv8
    clear hb8
    go_wp2_with fail
    refine (HR2.out w8 HB8.out).mono ?_
    rintro e w9 ⟨rfl, hb9⟩
    have HI9 := hid_r (HI8.out.below hb9 (Nat.le_refl _))
    have HJ9 := hid_r (HJ8.out.below hb9 (Nat.le_refl _))
    have HB9 := hid_r (HST.out _ _ HB8.out hb9)
    clear hb9
    go_wp2_with fail
    refine (HSM.out w9 _ _ HI9.out HJ9.out).mono ?_
    rintro e w10 ⟨rfl, hb10⟩
    have HB10 := hid_r (HST.out _ _ HB9.out hb10)
    clear hb10
    go_wp2_with fail
    go_ret
    exact ⟨rfl, HB10.out⟩
  · have e0 : errV (gripsR up l).2 = .iface 44 (.int .i64 (gripsR up l).2) := by unfold errV; rw [if_neg hc]
    rw [e0, if_pos hc] at HED
    rw [e0] at HLG HER2
    have HSM : Hid (∀ W v, IsEdges W v [] → Calls Tryd.prog 12 #[v, .slice none 0 0] W fun e w' => e = .returned (.bool true) ∧ Below W.heap.size W w') := fun W v h1 => same_edges _ v _ W h1 (isEdges_nil W) (by simp)
    have hq : ((gripsR up l).2 == 0) = false := by simpa using hc
    obtain ⟨⟨at1, ce⟩, hce⟩ : ∃ c, gripsR up l = c := ⟨_, rfl⟩
    rw [hce] at HED HLG HER2 HGR hq
    simp only at HED HLG HER2 HGR hq
    clear hc e0 hce HGE
    go_enter Tryd.func3, Tryd.ntmps3
    go_wp2_with fail
    refine HTR.out.mono ?_
    rintro e w1 ⟨rfl, hw1⟩
    rw [hw1]
    clear hw1
    go_wp2_with fail
    refine HCH.out.mono ?_
    rintro e w2 ⟨rfl, hb2⟩
    have HB2 := hid_r hb2
    clear hb2
    go_wp2_with fail
    refine (HER1.out w2 HB2.out).mono ?_
    rintro e w3 ⟨rfl, hb3⟩
    have HB3 := hid_r (HST.out _ _ HB2.out hb3)
    clear hb3
    go_wp2_with fail
    refine (HGR.out w3 HB3.out).mono ?_
    rintro e w4 ⟨rfl, hb4⟩
    have HB4 := hid_r (HST.out _ _ HB3.out hb4)
    clear hb4
    go_wp2_with fail
    refine (HLG.out w4 HB4.out).mono ?_
    rintro e w5 ⟨rfl, hb5⟩
    have HB5 := hid_r (HST.out _ _ HB4.out hb5)
    clear hb5
    go_wp2_with fail
    refine (HER2.out w5 HB5.out).mono ?_
    rintro e w6 ⟨rfl, hb6⟩
    have HB6 := hid_r (HST.out _ _ HB5.out hb6)
    clear hb6
    go_wp2_with fail
    refine (HED.out w6 HB6.out).mono ?_
    rintro e w8 ⟨v8, rfl, hi8, hb8⟩
    have HI8 := hid_r hi8
    have HB8 := hid_r (HST.out _ _ HB6.out hb8)
    obtain ⟨ad8, b8, o8, c8, hv8, -⟩ := hi8
    subst hv8
    clear hb8
    go_wp2_with fail
    refine (HER2.out w8 HB8.out).mono ?_
    rintro e w9 ⟨rfl, hb9⟩
    have HI9 := hid_r (HI8.out.below hb9 (Nat.le_refl _))
    have HB9 := hid_r (HST.out _ _ HB8.out hb9)
    clear hb9
    go_wp2_with fail
    refine (HSM.out w9 _ HI9.out).mono ?_
    rintro e w10 ⟨rfl, hb10⟩
    have HB10 := hid_r (HST.out _ _ HB9.out hb10)
    clear hb10
    go_wp2_with fail
    go_ret
    exact ⟨rfl, HB10.out⟩
end Go.Proofs.YtmgadiopjofegaiDoor
