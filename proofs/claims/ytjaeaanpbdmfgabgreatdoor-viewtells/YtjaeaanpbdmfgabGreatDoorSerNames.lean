/-
  PROVED HERE: serial.namesEachOnce tells whether a list, sorted, is the other one. Old memory stays as it was.
  Conditions: the second list is of at most 6 numbers.
-/
import Derived.Test.YtjaeaanpbdmfgabGreatDoorSerLib
namespace Go.Proofs.YtjaeaanpbdmfgabGreatDoor
open Go.RowKit

set_option maxHeartbeats 2000000 in
theorem names_any (o d : List Int) (u v : Value) (w : World) (hu : IsInts w u o) (hv : IsInts w v d) (hd : d.length ≤ 6) :
    Calls Tryz.prog 30 #[u, v] w fun e w' => e = .returned (.bool (sortI o == d)) ∧ Below w.heap.size w w' := by
  by_cases hlen : o.length = d.length
  · have HU : Hid (IsInts w u o) := hu
    have HV : Hid (∀ W, Below w.heap.size w W → IsInts W v d) := fun W hW => hv.below hW (Nat.le_refl _)
    obtain ⟨ad, b, off, cap, hu1, -, -, -, -⟩ := hu
    obtain ⟨ad2, b2, off2, cap2, hv1, -, -, -, -⟩ := hv
    have HL : Hid (o.length ≤ 6) := by show o.length ≤ 6; omega
    have HD : Hid (d.length ≤ 6) := hd
    rw [hlen] at hu1
    obtain ⟨n, hn⟩ : ∃ n, d.length = n := ⟨_, rfl⟩
    rw [hn] at hu1 hv1
    subst hu1 hv1
    clear hn hlen hd
    go_enter Tryz.func30, Tryz.ntmps30
    go_wp2_with fail
    refine (clone_ints o _ _ HU.out (by have := HL.out; omega)).mono ?_
    rintro e w1 ⟨v1, rfl, hown1, hb1⟩
    have HO1 : Hid (w1.ownsRow w.heap.size 3 1 v1 o.length (o.map (Value.int .i64))) := hown1
    clear hown1
    go_wp2_with fail
    refine (sort_own o _ _ _ _ rfl (by have := HL.out; omega) HO1.out).mono ?_
    rintro e w2 ⟨rfl, hown2, hgr2⟩
    have hb2 : Below w.heap.size w w2 := hb1.grown hgr2 hb1.size (fun m hm => (HO1.out.lt m hm).1)
    have HO2 : Hid (IsInts w2 v1 (sortI o)) := isInts_own hown2 (sortI_perm o).length_eq
    clear hown2 hgr2
    go_wp2_with fail
    refine (equal_ints (sortI o) d _ _ _ HO2.out (HV.out _ hb2) (by rw [(sortI_perm o).length_eq]; have := HL.out; omega) (by have := HD.out; omega)).mono ?_
    rintro e w3 ⟨rfl, hb3⟩
    go_wp2_with fail
    go_ret
    exact ⟨rfl, hb2.trans (hb3.mono hb2.size)⟩
  · have HF : Hid ((sortI o == d) = false) := beq_len (by rw [(sortI_perm o).length_eq]; exact hlen)
    obtain ⟨ad, b, off, cap, rfl, -, -, -, -⟩ := hu
    obtain ⟨ad2, b2, off2, cap2, rfl, -, -, -, -⟩ := hv
    have hne : ((o.length : Int) == (d.length : Int)) = false := by
      rw [beq_eq_false_iff_ne]; omega
    clear hlen hd
    go_enter Tryz.func30, Tryz.ntmps30
    go_wp2_with fail
    go_ret
    exact ⟨by rw [HF.out]; rfl, Below.refl _ _⟩
end Go.Proofs.YtjaeaanpbdmfgabGreatDoor
