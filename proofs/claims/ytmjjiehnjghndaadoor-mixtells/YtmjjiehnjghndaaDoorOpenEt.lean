/-
  PROVED HERE: what the listed variable errors.errorType holds, out of its reading.
  Conditions: none of this text's own.
-/
import Derived.Test.YtmjjiehnjghndaaDoorChecked
import Derived.Test.YtmjjiehnjghndaaDoorMgau
import Derived.ProofKit
import Derived.OpenShut
import Derived.ChangeSame
import Derived.ChangeVars
import Derived.JoinedOf
import Derived.LaidLaws
import Derived.LaidHandle
import Derived.Stop.Joined
import Derived.SizedLaws
namespace Go.Proofs.YtmjjiehnjghndaaDoor
open Go.ChangeShapes Go.WideShapes Go.ChangeAt Go.RowKit

theorem own : ownKnob Tryd.prog.godebug = none := by kernel_rfl
theorem laidOut : laidOutB Tryd.prog = true := by kernel_rfl
theorem et_no : Tryd.prog.globalNamed "errors.errorType" = some 0 := by kernel_rfl
theorem et_rt : (Tryd.prog.cutTypes.find? (·.1 == "internal/reflectlite.rtype")).map (·.2) = some 105 := by kernel_rfl
theorem et_row : ((List.range 154).filter fun t => Tryd.prog.rowNamed t [101, 114, 114, 111, 114]) = [30] := by kernel_rfl
theorem et_size : Tryd.prog.types.size = 154 := by kernel_rfl
theorem et_handle : typeHandle Tryd.prog 30 = .pointer (some ⟨1, 30, none⟩) := by kernel_rfl

/-- The handle among the listed variables, whatever stands ahead of it. -/
theorem handle_at {W : World} {name : List UInt8} {u ty : Nat} (e1 : some [101, 114, 114, 111, 114] = some name) (e2 : (Tryd.prog.cutTypes.find? (·.1 == "internal/reflectlite.rtype")).map (·.2) = some u) (e3 : ty < Tryd.prog.types.size) (e4 : Tryd.prog.rowNamed ty name = true)
    (e5 : W.var? Tryd.prog "errors.errorType" = some #[.iface u (.agg #[typeHandle Tryd.prog ty])]) : EtAt W := by
  have en : name = [101, 114, 114, 111, 114] := (Option.some.inj e1).symm
  subst en
  obtain rfl := Option.some.inj (et_rt.symm.trans e2)
  have hm : ty ∈ (List.range 154).filter fun t => Tryd.prog.rowNamed t [101, 114, 114, 111, 114] := List.mem_filter.2 ⟨List.mem_range.2 (by rw [← et_size]; exact e3), e4⟩
  rw [et_row] at hm
  obtain rfl := List.mem_singleton.1 hm
  rw [et_handle] at e5
  unfold EtAt
  simpa using World.var?_cell et_no e5 0
end Go.Proofs.YtmjjiehnjghndaaDoor
