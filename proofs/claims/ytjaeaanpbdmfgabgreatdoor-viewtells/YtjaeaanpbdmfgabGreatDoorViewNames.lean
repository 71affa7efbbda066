/-
  PROVED HERE: odds.Names gives the names of a list's ops; of a wrong list Check's error. Old memory stays as it was.
  Conditions: none.
-/
import Derived.Test.YtjaeaanpbdmfgabGreatDoorViewIsOf
import Derived.Test.YtjaeaanpbdmfgabGreatDoorMgak
namespace Go.Proofs.YtjaeaanpbdmfgabGreatDoor
open Go.RowKit Go.Maps

theorem nms_bad (l : List Op3) (v : Value) (w : World) (h : IsOps w v l) (hc : (chk l).2 ≠ 0) :
    Calls Tryz.prog 46 #[v] w fun e w' => e = .returned (.tuple #[.slice none 0 0, .iface 58 (.int .i64 (chk l).2)]) ∧ Below w.heap.size w w' := by
  go_enter Tryz.func46, Tryz.ntmps46
  go_wp2_with (go_at_call 57; refine (check_bad l _ _ h hc).mono ?_; rintro e w1 ⟨rfl, hb1⟩)
  go_ret2
  exact ⟨rfl, hb1⟩
theorem nms_ok (l : List Op3) (v : Value) (w : World) (h : IsOps w v l) (hc : (chk l).2 = 0) :
    Calls Tryz.prog 46 #[v] w fun e w' => ∃ v', e = .returned (.tuple #[v', .nilIface]) ∧ IsNames w' v' (namesTo l l.length) ∧ Below w.heap.size w w' := by
  have hl := chk_len hc
  have HT : Hid (∀ o ∈ l, 1 ≤ o.1 ∧ o.1 ≤ 6) := fun o ho => isOp_tx (chk_ops hc o ho)
  go_enter Tryz.func46, Tryz.ntmps46
  go_wp2_with fail
  refine (check_ok l _ _ h hc).mono ?_
  rintro e w1 ⟨rfl, hb1⟩
  have hI1 := h.below hb1 (Nat.le_refl _)
  clear hc h
  go_wp2_with fail
  refine (onames_any l _ _ hI1 hl HT.out).mono ?_
  rintro e w2 ⟨v2, rfl, hN2, hb2⟩
  have HN2 : Hid (IsNames w2 v2 (namesTo l l.length)) := hN2
  have hb02 := hb1.trans (hb2.mono hb1.size)
  clear hN2 hb1 hb2 hI1
  go_wp2_with fail
  go_ret2
  exact ⟨_, rfl, HN2.out, hb02⟩
theorem isNames_len {w : World} {v : Value} {d : List Op3} (h : IsNames w v (namesTo d d.length)) : ∃ ad cap, v = .slice ad d.length cap := by
  obtain ⟨ad, b, off, cap, hv, -⟩ := h
  rw [namesTo_len] at hv
  exact ⟨ad, cap, hv⟩
theorem sight_split {c : Code} {Q : Exit → Act → World → Prop} {a : Act} (w : World) (Z : Array Value) (M : Nat) (f : Nat → Nm) (hZ : zero29 = Z) (h : ∀ W, SightAt W w.heap.size M f → Below w.heap.size w W → Code.wp Tryz.prog c Q a W) :
    Code.wp Tryz.prog c Q a ((w.alloc (.cells Z 83)).setRow w.heap.size (cells29 M f)) := by
  subst hZ
  exact h _ (setRow_heap _ _ _ _ _ _ (heap_alloc_new _ _)) (below_setRow ((Below.refl _ w).alloc (Nat.le_refl _) _) (Nat.le_refl _) _)
end Go.Proofs.YtjaeaanpbdmfgabGreatDoor
