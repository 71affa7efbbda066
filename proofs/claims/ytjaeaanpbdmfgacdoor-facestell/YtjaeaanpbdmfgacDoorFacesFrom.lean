/-
  PROVED HERE: faces.From tells of each Read of a right list from whom it reads; of a wrong list it gives Check's error. Old memory stays as it was.
  Conditions: the slice is no longer than its capacity.
-/
import Derived.Test.YtjaeaanpbdmfgacDoorFacesSrc
import Derived.Test.YtjaeaanpbdmfgacDoorDone
import Derived.Test.YtjaeaanpbdmfgacDoorBack
namespace Go.Proofs.YtjaeaanpbdmfgacDoor
open Go.RowKit

theorem ffrom_bad (l : List Op3) (v : Value) (w : World) (h : IsOps w v l) (hc : (chk l).2 ≠ 0) :
    Calls Tryd.prog 12 #[v] w fun e w' => e = .returned (.tuple #[.slice none 0 0, .iface 64 (.int .i64 (chk l).2)]) ∧ Below w.heap.size w w' := by
  go_enter Tryd.func12, Tryd.ntmps12
  go_wp2_with (go_at_call 47; refine (check_bad l _ _ h hc).mono ?_; rintro e w1 ⟨rfl, hb1⟩)
  go_ret2
  exact ⟨rfl, hb1⟩
theorem ffrom_ok (l : List Op3) (ad : Option Addr) (cap : Nat) (w : World) (h : IsOps w (.slice ad l.length cap) l) (hcap : l.length ≤ cap) (hc : (chk l).2 = 0) :
    Calls Tryd.prog 12 #[.slice ad l.length cap] w fun e w' => ∃ v', e = .returned (.tuple #[v', .nilIface]) ∧ IsEdges w' v' (srcTo l l.length) ∧ Below w.heap.size w w' := by
  have hl := chk_len hc
  have hop := chk_ops hc
  have hsrc := sTo_src ((chk_iff l).1 hc).2.2 hop l.length (Nat.le_refl _)
  have HCK : Hid (Calls Tryd.prog 47 #[.slice ad l.length cap] w fun e w' => e = .returned (.tuple #[.int .i64 (chk l).1, .nilIface]) ∧ Below w.heap.size w w') := check_ok l _ w h hc
  obtain ⟨f, hf⟩ : ∃ f, endE l l.length = f := ⟨_, rfl⟩
  rw [hf] at hsrc
  have HI : Hid (∀ W, Below w.heap.size w W → IsOps W (.slice ad l.length cap) l) := fun W hW => h.below hW (Nat.le_refl _)
  have HEO : Hid (∀ W, Below w.heap.size w W → Calls Tryd.prog 35 #[.slice ad l.length cap] W fun e w' => e = .returned (.agg (cells14 f)) ∧ Below W.heap.size W w') := fun W hW => by
    have := endsOf_any l _ W (HI.out W hW) hl hop
    rw [hf] at this
    exact this
  have HSO : Hid (∀ W, Below w.heap.size w W → Calls Tryd.prog 37 #[.slice ad l.length cap, .agg (cells14 f)] W fun e w' => ∃ v', e = .returned v' ∧ IsEdges w' v' (srcTo l l.length) ∧ Below W.heap.size W w') := fun W hW => by
    refine (sources_any f l ad cap W (HI.out W hW) hcap hl hop).mono ?_
    rintro e w' ⟨v', h1, h2, h3⟩
    rw [hsrc] at h2
    exact ⟨v', h1, isEdges_own h2 rfl, h3⟩
  clear h hc hop hsrc hf
  go_enter Tryd.func12, Tryd.ntmps12
  go_wp2_with fail
  refine HCK.out.mono ?_
  rintro e w1 ⟨rfl, hb1⟩
  have HB1 : Hid (Below w.heap.size w w1) := hb1
  clear hb1
  go_wp2_with fail
  refine (HEO.out w1 HB1.out).mono ?_
  rintro e w2 ⟨rfl, hb2⟩
  have HB2 : Hid (Below w.heap.size w w2) := HB1.out.trans (hb2.mono HB1.out.size)
  clear hb2
  go_wp2_with fail
  refine (HSO.out w2 HB2.out).mono ?_
  rintro e w3 ⟨v', rfl, hE3, hb3⟩
  have HB3 : Hid (Below w.heap.size w w3) := HB2.out.trans (hb3.mono HB2.out.size)
  have HE3 : Hid (IsEdges w3 v' (srcTo l l.length)) := hE3
  clear hb3 hE3
  go_wp2_with fail
  go_ret2
  exact ⟨_, rfl, HE3.out, HB3.out⟩
end Go.Proofs.YtjaeaanpbdmfgacDoor
