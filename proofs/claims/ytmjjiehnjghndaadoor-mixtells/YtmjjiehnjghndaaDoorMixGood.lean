/-
  PROVED HERE: mix.Good tells how many orders are good; of what is wrong it gives the error. Old memory stays as it was.
  Conditions: none.
-/
import Derived.Test.YtmjjiehnjghndaaDoorMixCnt
import Derived.Test.YtmjjiehnjghndaaDoorSerOrder
namespace Go.Proofs.YtmjjiehnjghndaaDoor
open Go.RowKit

theorem good1_fn (hl : Nat) : SoC (fun x => (serOrd (doneL x)).isSome) hl 22 := by
  intro x q w hc _ hI
  have HO := hid_mm (ord_any x _ w hI hc)
  obtain ⟨xl, hxl⟩ : ∃ n, x.length = n := ⟨_, rfl⟩
  rw [hxl] at HO ⊢
  clear hI hxl hc
  go_enter Tryd.func22, Tryd.ntmps22
  go_wp2_with fail
  refine HO.out.mono ?_
  rintro e w1 ⟨⟨o, v', ho, rfl, -⟩ | ⟨hn, rfl⟩, hb⟩
  · have HQ : Hid ((serOrd (doneL x)).isSome = true) := by show _ = _; rw [ho]; rfl
    have HB := hid_mm hb
    clear ho hb HO
    go_wp2_with fail
    go_ret
    exact ⟨by rw [HQ.out]; rfl, HB.out⟩
  · have HQ : Hid ((serOrd (doneL x)).isSome = false) := by show _ = _; rw [hn]; rfl
    have HB := hid_mm hb
    clear hn hb HO
    go_wp2_with fail
    go_ret
    exact ⟨by rw [HQ.out]; rfl, HB.out⟩
theorem mGoodC : MGoodC := by
  intro l ad cap w hI _
  have hct := count_those (f := fun x => (serOrd (doneL x)).isSome) (M := 22) l ad cap w (fun _ _ => by kernel_rfl) (good1_fn _) hI
  rw [show ((mixM l).filter fun x => (serOrd (doneL x)).isSome).length = goodN l from rfl] at hct
  have HCT := hid_mm hct
  clear hct hI
  go_enter Tryd.func9, Tryd.ntmps9
  go_wp2_with fail
  refine HCT.out.mono ?_
  rintro e w1 ⟨rfl, hb1⟩
  have HB1 := hid_mm hb1
  clear hb1 HCT
  go_wp2_with fail
  go_ret2
  exact ⟨rfl, HB1.out⟩
end Go.Proofs.YtmjjiehnjghndaaDoor
