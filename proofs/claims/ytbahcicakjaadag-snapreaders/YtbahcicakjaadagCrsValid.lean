/-
  PROVED HERE: package valid's two rules, as package course calls them: what a Read sees, and whether one that asks to commit is aborted. Old memory stays as it was.
  Conditions: the deal has begun; the lists are short.
-/
import Derived.Test.YtbahcicakjaadagCrsLast
namespace Go.Proofs.Ytbahcicakjaadag
open Go.RowKit

/-- What a rule that tells whose Write is seen is asked. -/
def SeesC (N : Nat) (seesF : Crs → Int → Int → Int) : Prop := ∀ (w0 w : World) (R : Nat) (S F : Value) (q : Crs) (c : CLay) (t item : Int), CrsAt w0 w R S F q c → CrsOk 1000 q → 1 ≤ t → t ≤ 6 → (q.began t).isSome = true →
  Calls Try.prog N #[.pointer (some ⟨R, 0, none⟩), .int .i64 t, .int .i64 item] w fun e w' => e = .returned (.int .i64 (seesF q t item)) ∧ Below w.heap.size w w'
/-- What a rule that tells whether one is aborted is asked. -/
def FallC (N : Nat) (fallF : Crs → Int → Bool) : Prop := ∀ (w0 w : World) (R : Nat) (S F : Value) (q : Crs) (c : CLay) (t : Int), CrsAt w0 w R S F q c → CrsOk 1000 q → 1 ≤ t → t ≤ 6 → (q.began t).isSome = true →
  Calls Try.prog N #[.pointer (some ⟨R, 0, none⟩), .int .i64 t] w fun e w' => e = .returned (.bool (fallF q t)) ∧ Below w.heap.size w w'
/-- Did one write what this one read? -/
def staleB (q : Crs) (t o : Int) (x : Op3) : Bool := x.2.2 != t && inB (q.wrote o) x.2.1
end Go.Proofs.Ytbahcicakjaadag
