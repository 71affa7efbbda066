/-
  PROVED HERE: package valid's two rules, as package course calls them: what a Read sees, and whether one that asks to commit is aborted. Old memory stays as it was.
  Conditions: the deal has begun; the lists are short.
-/
import Derived.Test.YtccjognnehoodahCrsLast
namespace Go.Proofs.Ytccjognnehoodah
open Go.RowKit

/-- What a rule that tells whose Write is seen is asked. -/
def SeesC (N : Nat) (seesF : Crs → Int → Int → Int) : Prop := ∀ (w0 w : World) (R : Nat) (S F : Value) (q : Crs) (c : CLay) (t item : Int), CrsAt w0 w R S F q c → CrsOk 1000 q → 1 ≤ t → t ≤ 6 → (q.began t).isSome = true →
  Calls Try.prog N #[.pointer (some ⟨R, 0, none⟩), .int .i64 t, .int .i64 item] w fun e w' => e = .returned (.int .i64 (seesF q t item)) ∧ Below w.heap.size w w'
/-- What a rule that tells whether one is aborted is asked. -/
def FallC (N : Nat) (fallF : Crs → Int → Bool) : Prop := ∀ (w0 w : World) (R : Nat) (S F : Value) (q : Crs) (c : CLay) (t : Int), CrsAt w0 w R S F q c → CrsOk 1000 q → 1 ≤ t → t ≤ 6 → (q.began t).isSome = true →
  Calls Try.prog N #[.pointer (some ⟨R, 0, none⟩), .int .i64 t] w fun e w' => e = .returned (.bool (fallF q t)) ∧ Below w.heap.size w w'
/-- .. and of one that holds on to something that lay there before. -/
def FallK (K : World → Prop) (N : Nat) (B C : Array Value) (fallF : Crs → Int → Bool) : Prop := ∀ (w0 w : World) (R : Nat) (S F : Value) (q : Crs) (c : CLay) (t : Int), K w0 → CrsAt w0 w R S F q c → CrsOk 999 q → 1 ≤ t → t ≤ 6 → (q.began t).isSome = true →
  Calls Try.prog N (B ++ #[.pointer (some ⟨R, 0, none⟩), .int .i64 t] ++ C) w fun e w' => e = .returned (.bool (fallF q t)) ∧ Below w.heap.size w w'
theorem FallC.k {N : Nat} {fallF : Crs → Int → Bool} (h : FallC N fallF) : FallK (fun _ => True) N #[] #[] fallF := fun w0 w R S F q c t _ h1 h2 h3 h4 h5 => by
  rw [Array.append_empty, Array.empty_append]
  exact h w0 w R S F q c t h1 h2.more h3 h4 h5
/-- Did one write what this one read? -/
def staleB (q : Crs) (t o : Int) (x : Op3) : Bool := x.2.2 != t && inB (q.wrote o) x.2.1
end Go.Proofs.Ytccjognnehoodah
