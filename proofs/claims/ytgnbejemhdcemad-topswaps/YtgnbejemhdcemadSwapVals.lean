/-
  PROVED HERE: plain facts, with no word of the program: with two ops that changed places a list comes to the same.
  Conditions: none.
-/
import Derived.Test.YtgnbejemhdcemadSwapPlain
import Derived.Test.YtgnbejemhdcemadPlayPlain
namespace Go.Proofs.Ytgnbejemhdcemad

theorem swap_vals {l : List Op3} (hc : (chk l).2 = 0) {i : Nat} (h : i + 1 < l.length) (hne : (opAt l i).1 ≠ (opAt l (i + 1)).1) (ho : oddB (opAt l i) (opAt l (i + 1)) = false) : valsL (doneL (swapL l i)) = valsL (doneL l) := by
  have hc2 := swap_chk hc h hne
  rcases swap_done h with e | ⟨A, B, e1, e2⟩
  · rw [e]
  · have hlen : A.length + 1 < (doneL l).length := by rw [e1]; simp
    have hx : opAt (doneL l) A.length = opAt l i := by rw [e1]; simp [opAt, List.getD]
    have hy : opAt (doneL l) (A.length + 1) = opAt l (i + 1) := by rw [e1]; simp [opAt, List.getD]
    have hsw : swapL (doneL l) A.length = doneL (swapL l i) := by
      have hs := (swap_split hlen).2
      rw [hs, hx, hy, e2, e1]
      simp
    have hd := chk_ops (chk_done hc)
    have hs := swap_same (fun o ho => isOp_deal (hd o ho)) hlen (by rw [hx, hy]; exact hne) (by rw [hx, hy]; exact ho)
    rw [hsw] at hs
    exact (vals_same hd (chk_ops (chk_done hc2)) (same_sight hd (chk_ops (chk_done hc2)) hs)).symm
end Go.Proofs.Ytgnbejemhdcemad
