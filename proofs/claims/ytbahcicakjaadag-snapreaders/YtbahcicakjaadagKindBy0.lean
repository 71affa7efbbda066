/-
  PROVED HERE: lanelaw2.seen gives what a deal saw of an outcome; lanelaw2.right says yes where an outcome's deals ask to commit, each once. Old memory stays as it was.
  Conditions: the lists are short.
-/
import Derived.Test.YtbahcicakjaadagMgas
import Derived.Test.YtbahcicakjaadagMgaq
import Derived.Test.YtbahcicakjaadagMgao
import Derived.Test.YtbahcicakjaadagLocksMem
import Derived.BigQuiet
import Derived.Deep.QuietTactic
import Derived.Deep.Cut
namespace Go.Proofs.Ytbahcicakjaadag
open Go.RowKit

theorem hid_s {p : Prop} (h : p) : Hid p := h
theorem infoSeenS : (Try.prog.info? 69).map (fun i => (i.zero, i.size, i.bytes)) = some (some (.agg #[.int .i64 0, .int .i64 0, .int .i64 0]), 3, 24) := by kernel_rfl
theorem seen_one (w : World) (t a i : Int) : ∀ j u, (flat [(t, a, i)])[j]? = some u → (w.alloc (.cells #[.int .i64 t, .int .i64 a, .int .i64 i] 69)).cell? ((⟨w.heap.size, 0, none⟩ : Addr).add j) = some u := by
  intro j u hj
  rw [Addr.add_lit]
  rcases j with _ | _ | _ | j
  · simpa [flat] using hj
  · simpa [flat] using hj
  · simpa [flat] using hj
  · simp [flat] at hj
/-- Of whom an outcome tells. -/
def RightB (l : List Op3) (ds : List Int) : Prop := ds.Nodup ∧ ∀ t ∈ ds, endOf l t = 3
end Go.Proofs.Ytbahcicakjaadag
