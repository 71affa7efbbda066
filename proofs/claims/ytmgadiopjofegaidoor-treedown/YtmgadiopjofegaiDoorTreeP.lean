/-
  PROVED HERE: package tree keeps what it is asked: Check, Legal, Edges.
  Conditions: none.
-/
import Derived.Test.YtmgadiopjofegaiDoorTSt4
import Derived.Test.YtmgadiopjofegaiDoorTSt5
namespace Go.Proofs.YtmgadiopjofegaiDoor
open Go.RowKit

set_option maxHeartbeats 4000000 in
theorem legalC : TLegalC := by
  intro up l vu vl w hU hG
  have HS := hid_r (stand_fn up l vu vl w hU hG)
  obtain ⟨ad0, b0, off0, cap0, rfl, -⟩ := hU
  obtain ⟨ad, b, off, cap, rfl, -⟩ := hG
  obtain ⟨E1, hE1⟩ : ∃ E, (gripsR up l).1 = E := ⟨_, rfl⟩
  obtain ⟨E2, hE2⟩ : ∃ E, errV (gripsR up l).2 = E := ⟨_, rfl⟩
  have HE1 := hid_r hE1
  have HE2 := hid_r hE2
  rw [hE1, hE2]
  clear hE1 hE2
  go_enter Tryd.func9, Tryd.ntmps9
  go_wp2_with fail
  refine HS.out.mono ?_
  rintro e w1 ⟨⟨vs, rfl, -⟩, hb1⟩
  rw [HE1.out, HE2.out]
  have HB1 := hid_r hb1
  clear hb1
  go_wp2_with fail
  go_ret2
  exact ⟨rfl, HB1.out⟩
set_option maxHeartbeats 4000000 in
theorem edgesC : TEdgesC := by
  intro up l vu vl w hU hG
  have HS := hid_r (stand_fn up l vu vl w hU hG)
  obtain ⟨ad0, b0, off0, cap0, rfl, -⟩ := hU
  obtain ⟨ad, b, off, cap, rfl, -⟩ := hG
  obtain ⟨E, hE⟩ : ∃ E, (gripsR up l).2 = E := ⟨_, rfl⟩
  have HE := hid_r hE
  rw [hE]
  clear hE
  by_cases h0 : E = 0
  · subst h0
    rw [if_neg (by simp)]
    go_enter Tryd.func11, Tryd.ntmps11
    go_wp2_with fail
    refine HS.out.mono ?_
    rintro e w1 ⟨⟨vs, rfl, h1⟩, hb1⟩
    obtain ⟨B, M, rfl, -, -, hL, hs⟩ := h1 HE.out
    rw [HE.out, errV_zero]
    have HC : Hid (Calls Tryd.prog 17 #[.pointer (some ⟨B, 0, none⟩)] w1 fun e w' => ∃ v', e = .returned v' ∧ IsEdges w' v' (gripL l) ∧ Below w1.heap.size w1 w') := by
      have := sedges_fn B M _ _ _ w1 hs
      rw [eTo_grip hL] at this
      exact this
    have HB1 := hid_r hb1
    clear hb1 hL hs h1
    go_wp2_with fail
    refine HC.out.mono ?_
    rintro e w2 ⟨v2, rfl, h2, hb2⟩
    have H2 := hid_r h2
    have HB2 : Hid (Below w.heap.size w w2) := HB1.out.trans (hb2.mono HB1.out.size)
    clear h2 hb2
    go_wp2_with fail
    go_ret2
    exact ⟨_, rfl, H2.out, HB2.out⟩
  · rw [if_pos h0, errV_ne h0]
    have HE0 := hid_r h0
    go_enter Tryd.func11, Tryd.ntmps11
    go_wp2_with fail
    refine HS.out.mono ?_
    rintro e w1 ⟨⟨vs, rfl, -⟩, hb1⟩
    rw [HE.out, errV_ne HE0.out]
    have HB1 := hid_r hb1
    clear hb1
    go_wp2_with fail
    go_ret2
    exact ⟨_, rfl, ⟨none, 0, 0, 0, rfl, fun h => absurd h (by simp), fun _ => ⟨rfl, rfl⟩, .inr rfl, fun i hi => by cases hi⟩, HB1.out⟩
end Go.Proofs.YtmgadiopjofegaiDoor
