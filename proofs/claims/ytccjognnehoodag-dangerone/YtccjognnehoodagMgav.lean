/-
  PROVED HERE: errors.As at the one target that package plain asks with ('var e api.Errno; errors.As(err, &e)'): a nil error is answered false; an api.Errno is answered true, and the target holds it. plain.Told and lanesame.Error by their contracts.
  Conditions: the variable errors.errorType holds the handle of the type error (the row lists it).
  PROVED HERE: plain.Told tells nil as 0 and an api.Errno as its number; lanesame.Error compares that number with another one. Old memory stays as it was.
  Conditions: the variable errors.errorType holds the handle of the type error (the row lists it).
-/
import Derived.Test.YtccjognnehoodagProg
import Derived.WalkKit
import Derived.LaidEql
import Derived.Stop.Asserts
import Derived.RowKitTokens
import Derived.Handy
namespace Go.Proofs.Ytccjognnehoodag
open Go.RowKit Go.Extern.Stop Go.Stop Go.Extern

/-! ### The entries' heads match on array literals: their matchers, at the literal, by 'rfl' -/
theorem set_match (f : Value → Value → Sem Value) (g : Array Value → Sem Value) (v x : Value) : ReflectliteValue.set.match_3 (fun _ => Sem Value) #[v, x] f g = f v x := rfl
theorem method_match (f : Value → Sem Value) (g : Array Value → Sem Value) (v : Value) : ReflectliteValue.method.match_2 (fun _ => Sem Value) #[v] f g = f v := rfl
theorem as_kindE (w : World) : ((ReflectliteType.abiMethod fun t => Functor.map (fun a : Nat => Value.int IntKind.u8 (a : Int)) (Rtype.kind t)) #[.pointer (some ⟨0, 104, none⟩)]).run Try.prog w = .ok (.int .u8 2) w := by kernel_rfl
theorem as_valueOfE (n : Int) (w : World) : (ReflectliteValue.unpack (.iface 104 (.int .i64 n))).run Try.prog w
    = .ok (.agg #[.pointer (some ⟨0, 104, none⟩), .pointer (some ⟨w.heap.size, 0, none⟩), .int .u64 130]) (w.alloc (.cells #[.int .i64 n] 104)) := by kernel_rfl
theorem as_mkE (p : Addr) (w : World) : (ReflectliteValue.mk 104 p ReflectliteValue.flagAddr).run Try.prog w = .ok (.agg #[.pointer (some ⟨0, 104, none⟩), .pointer (some p), .int .u64 386]) w := by kernel_rfl
theorem as_partsEa (a : Addr) (w : World) : (ReflectliteValue.parts (.agg #[.pointer (some ⟨0, 104, none⟩), .pointer (some a), .int .u64 386])).run Try.prog w = .ok (some (104, a, 386)) w := by kernel_rfl
theorem as_partsE (a : Addr) (w : World) : (ReflectliteValue.parts (.agg #[.pointer (some ⟨0, 104, none⟩), .pointer (some a), .int .u64 130])).run Try.prog w = .ok (some (104, a, 130)) w := by kernel_rfl
theorem as_direct (w : World) : (Rtype.directlyAssignable 104 104).run Try.prog w = .ok true w := by kernel_rfl
/-- (Value).Set: the variable at the first Value's address gets what the second Value's own variable holds. -/
theorem as_set (ta b : Addr) (n : Int) (old : Value) (W : World) (hb : W.cell? b = some (.int .i64 n)) (ht : W.cell? ta = some old) (hf : W.frozen? ta = false) :
    (ReflectliteValue.set #[.agg #[.pointer (some ⟨0, 104, none⟩), .pointer (some ta), .int .u64 386], .agg #[.pointer (some ⟨0, 104, none⟩), .pointer (some b), .int .u64 130]]).run Try.prog W
      = .ok (.tuple #[]) (W.setCell ta (.int .i64 n)) := by
  unfold ReflectliteValue.set
  rw [set_match]
  simp only [Sem.run_bind, as_partsEa, as_partsE, Result.andThen]
  simp [ReflectliteValue.flagAddr, loadVar, isAgg, underlying, Try.underlying104, hb, Result.andThen, as_direct, storeVar, Value.cells, storeCells, Addr.add]
  rw [run_store Try.prog W ta _ _ (by rfl)]
  simp [ht, hf]

end Go.Proofs.Ytccjognnehoodag

namespace Go.Proofs.Ytccjognnehoodag
open Go.RowKit

end Go.Proofs.Ytccjognnehoodag
