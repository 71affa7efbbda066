/-
  PROVED HERE: how long a list of ops among the arguments of the laws is, out of its data.
  Conditions: none of this text's own.
-/
import Derived.Test.YtggieffpehbfaaaDoorOpenOps
namespace Go.Proofs.YtggieffpehbfaaaDoor
open Go.ChangeShapes Go.WideShapes Go.ChangeAt Go.RowKit

theorem bytesOp : Tryd.prog.bytesOf 32 = 24 := by kernel_rfl
/-- How long a list of ops is, out of its reading. -/
theorem ops_len {H : Type} {enc : TypeId × Value → H} {w : World} {fuel : Nat} {a0 : Option Addr} {len cap : Nat} {x : DataW H × List MemPlace}
    (h : DataW.trod enc Tryd.prog w 0 (fun _ => true) true fuel 36 [.slice a0 len cap] = some x) : len = 0 ∨ ∃ elems spare, x.1 = .slice elems spare ∧ elems.length = len := by
  rcases Deep.open_slice Tryd.underlying36 h with ⟨hc, hx⟩ | ⟨a, len', cap', m, n, D, Pl, hc, _, hl, hm, hmm, hx, hall⟩
  · simp only [List.cons.injEq, and_true, Value.slice.injEq] at hc
    exact .inl hc.2.1
  · simp only [List.cons.injEq, and_true, Value.slice.injEq] at hc
    obtain ⟨_, rfl, _⟩ := hc
    exact .inr ⟨_, _, by rw [hx], by simp⟩
theorem ops_sized {H : Type} {ts : List TypeId} {ds : List (DataW H)} (h : (DataW.weightsEach Tryd.prog ts ds).all (· ≤ reachBytes) = true) {j len : Nat} {d : DataW H} (ht : ts[j]? = some 36) (hd : ds[j]? = some d)
    (hx : len = 0 ∨ ∃ elems spare, d = .slice elems spare ∧ elems.length = len) : len * 24 ≤ 140737488351232 := by
  rcases hx with rfl | ⟨elems, spare, rfl, rfl⟩
  · omega
  · have h1 := sized_slice h ht hd Tryd.underlying36
    rw [bytesOp] at h1
    have h2 : reachBytes = 140737488351232 := rfl
    rw [h2] at h1
    omega
end Go.Proofs.YtggieffpehbfaaaDoor
