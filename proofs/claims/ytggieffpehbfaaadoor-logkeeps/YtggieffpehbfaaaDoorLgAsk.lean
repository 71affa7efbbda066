/-
  PROVED HERE: nothing yet of package log: what its methods are asked to answer, over any way in which a Log may lie in memory of its own.
  Conditions: none.
  (Of these, what the claim wants: the rest was left out.)
-/
import Derived.Test.YtggieffpehbfaaaDoorLgPlain
import Derived.Test.YtggieffpehbfaaaDoorOps
import Derived.Test.YtggieffpehbfaaaDoorCheck
import Derived.Test.YtggieffpehbfaaaDoorIntRow
import Derived.Test.YtggieffpehbfaaaDoorLocksMem
namespace Go.Proofs.YtggieffpehbfaaaDoor
open Go.RowKit

theorem hid_l {p : Prop} (h : p) : Hid p := h
def ptL (p : Nat) : Value := .pointer (some ⟨p, 0, none⟩)
def opL (o : Op3) : Value := .agg #[.int .i64 o.1, .int .i64 o.2.1, .int .i64 o.2.2]
/-- A Log lies in blocks of its own (F): what is asked of a way to say so, and of the package. -/
structure LogW (Rep : World → Nat → Lg → (Nat → Prop) → Prop) : Prop where
  lt : ∀ w p s F, Rep w p s F → ∀ k, F k → k < w.heap.size
  later : ∀ w w1 p s F G, Rep w p s F → Turns G w w1 → (∀ k, F k → ¬ G k) → Rep w1 p s F
  new : ∀ (w : World), Calls Tryd.prog 6 #[] w fun e w' => Below w.heap.size w w' ∧ ∃ p F, e = .returned (ptL p) ∧ Rep w' p lg0 F ∧ ∀ k, F k → w.heap.size ≤ k
  do_ : ∀ (w : World) (p : Nat) (s : Lg) (F : Nat → Prop) (o : Op3), Rep w p s F → LgOk s → Calls Tryd.prog 10 #[ptL p, opL o] w fun e w' =>
    ∃ r s', DoR s o r s' ∧ e = .returned (errV r) ∧ ∃ F', Rep w' p s' F' ∧ Turns F w w' ∧ ∀ k, F' k → F k ∨ w.heap.size ≤ k
  sync : ∀ (w : World) (p : Nat) (s : Lg) (F : Nat → Prop), Rep w p s F → LgOk s → Calls Tryd.prog 12 #[ptL p] w fun e w' =>
    e = .returned (errV (syncE s)) ∧ ∃ F', Rep w' p (syncS s) F' ∧ Turns F w w' ∧ ∀ k, F' k → F k ∨ w.heap.size ≤ k
  fail : ∀ (w : World) (p : Nat) (s : Lg) (F : Nat → Prop) (n : Int), Rep w p s F → LgOk s → Calls Tryd.prog 9 #[ptL p, .int .i64 n] w fun e w' =>
    e = .returned (.tuple #[]) ∧ ∃ F', Rep w' p (failS s n) F' ∧ Turns F w w' ∧ ∀ k, F' k → F k ∨ w.heap.size ≤ k
  crash : ∀ (w : World) (p : Nat) (s : Lg) (F : Nat → Prop) (n : Int), Rep w p s F → LgOk s → Calls Tryd.prog 13 #[ptL p, .int .i64 n] w fun e w' =>
    e = .returned (.tuple #[]) ∧ ∃ F', Rep w' p (crashS s n) F' ∧ Turns F w w' ∧ ∀ k, F' k → F k ∨ w.heap.size ≤ k
  all : ∀ (w : World) (p : Nat) (s : Lg) (F : Nat → Prop), Rep w p s F → LgOk s → Calls Tryd.prog 14 #[ptL p] w fun e w' => ∃ v', e = .returned v' ∧ IsOps w' v' s.hist ∧ Below w.heap.size w w'
  values : ∀ (w : World) (p : Nat) (s : Lg) (F : Nat → Prop), Rep w p s F → LgOk s → Calls Tryd.prog 8 #[ptL p] w fun e w' => ∃ v', e = .returned v' ∧ IsInts w' v' (valsL (doneL s.hist)) ∧ Below w.heap.size w w'
  bytes : ∀ (w : World) (p : Nat) (s : Lg) (F : Nat → Prop), Rep w p s F → LgOk s → Calls Tryd.prog 7 #[ptL p] w fun e w' => e = .returned (.int .i64 s.bytes) ∧ Below w.heap.size w w'
  safe : ∀ (w : World) (p : Nat) (s : Lg) (F : Nat → Prop), Rep w p s F → LgOk s → Calls Tryd.prog 15 #[ptL p] w fun e w' => e = .returned (.int .i64 s.safe) ∧ Below w.heap.size w w'
/-- A Log since a world: it lies beyond what lay there. -/
def LgAt (Rep : World → Nat → Lg → (Nat → Prop) → Prop) (w0 w : World) (p : Nat) (s : Lg) : Prop := LgOk s ∧ Below w0.heap.size w0 w ∧ ∃ F, Rep w p s F ∧ ∀ k, F k → w0.heap.size ≤ k
section
variable {Rep : World → Nat → Lg → (Nat → Prop) → Prop} {w0 w w1 : World} {p : Nat} {s s1 : Lg}
theorem LgAt.turn {F F' : Nat → Prop} (hold : Below w0.heap.size w0 w) (hok : LgOk s1) (h0 : ∀ k, F k → w0.heap.size ≤ k) (hr : Rep w1 p s1 F') (ht : Turns F w w1) (hf : ∀ k, F' k → F k ∨ w.heap.size ≤ k) : LgAt Rep w0 w1 p s1 := by
  refine ⟨hok, hold.trans (ht.below hold.size fun k hk hf => by have := h0 k hf; omega), F', hr, fun k hk => ?_⟩
  rcases hf k hk with h5 | h5
  · exact h0 k h5
  · exact Nat.le_trans hold.size h5
theorem LgAt.below (hR : LogW Rep) (h : LgAt Rep w0 w p s) (hb : Below w.heap.size w w1) : LgAt Rep w0 w1 p s := by
  obtain ⟨h1, h2, F, h3, h4⟩ := h
  exact ⟨h1, h2.trans (hb.mono h2.size), F, hR.later w w1 p s F (fun _ => False) h3 (Turns.of_below hb) (fun _ _ hf => hf), h4⟩
end
end Go.Proofs.YtggieffpehbfaaaDoor
