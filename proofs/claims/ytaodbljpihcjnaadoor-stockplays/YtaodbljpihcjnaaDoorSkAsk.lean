/-
  PROVED HERE: nothing yet of package stock: what its New, Ask, End, Now and Range are asked to answer, over any way in which a Stock may lie in memory of its own.
  Conditions: none.
  (Of these, what the claim wants: the rest was left out.)
-/
import Derived.Test.YtaodbljpihcjnaaDoorSkPlain
import Derived.Test.YtaodbljpihcjnaaDoorCheck
import Derived.Test.YtaodbljpihcjnaaDoorLocksMem
namespace Go.Proofs.YtaodbljpihcjnaaDoor
open Go.RowKit

theorem hid_k {p : Prop} (h : p) : Hid p := h
def ptK (p : Nat) : Value := .pointer (some ⟨p, 0, none⟩)
/-- A Stock lies in blocks of its own (F): what is asked of a way to say so, and of the package. -/
structure StockW (Rep : World → Nat → Stk → (Nat → Prop) → Prop) : Prop where
  lt : ∀ w p s F, Rep w p s F → ∀ k, F k → k < w.heap.size
  later : ∀ w w1 p s F G, Rep w p s F → Turns G w w1 → (∀ k, F k → ¬ G k) → Rep w1 p s F
  new : ∀ (n : Int) (w : World), Calls Tryd.prog 4 #[.int .i64 n] w fun e w' => Below w.heap.size w w' ∧
    (((n < 0 ∨ 1000000 < n) ∧ ∃ po, e = .returned (.tuple #[.pointer po, .iface 41 (.int .i64 1)])) ∨
     ((0 ≤ n ∧ n ≤ 1000000) ∧ ∃ p F, e = .returned (.tuple #[ptK p, .nilIface]) ∧ Rep w' p (stk0 n) F ∧ ∀ k, F k → w.heap.size ≤ k))
  ask : ∀ (w : World) (p : Nat) (s : Stk) (F : Nat → Prop) (t d : Int), Rep w p s F → StkOk s → Calls Tryd.prog 7 #[ptK p, .int .i64 t, .int .i64 d] w fun e w' =>
    e = .returned (.tuple #[.bool (askB s t d), errV (askE t d)]) ∧ ∃ F', Rep w' p (askS s t d) F' ∧ Turns F w w' ∧ ∀ k, F' k → F k ∨ w.heap.size ≤ k
  end_ : ∀ (w : World) (p : Nat) (s : Stk) (F : Nat → Prop) (t : Int) (c : Bool), Rep w p s F → StkOk s → Calls Tryd.prog 8 #[ptK p, .int .i64 t, .bool c] w fun e w' =>
    e = .returned (.tuple #[.int .i64 (endV s t c), errV (endE s t)]) ∧ ∃ F', Rep w' p (endS s t c) F' ∧ Turns F w w' ∧ ∀ k, F' k → F k ∨ w.heap.size ≤ k
  now : ∀ (w : World) (p : Nat) (s : Stk) (F : Nat → Prop), Rep w p s F → StkOk s → Calls Tryd.prog 10 #[ptK p] w fun e w' => e = .returned (.int .i64 s.now) ∧ Below w.heap.size w w'
  range : ∀ (w : World) (p : Nat) (s : Stk) (F : Nat → Prop), Rep w p s F → StkOk s → Calls Tryd.prog 9 #[ptK p] w fun e w' => e = .returned (.tuple #[.int .i64 (lowK s), .int .i64 (highK s)]) ∧ Below w.heap.size w w'
/-- A Stock since a world: it lies beyond what lay there. -/
def SkAt (Rep : World → Nat → Stk → (Nat → Prop) → Prop) (w0 w : World) (p : Nat) (s : Stk) : Prop := StkOk s ∧ Below w0.heap.size w0 w ∧ ∃ F, Rep w p s F ∧ ∀ k, F k → w0.heap.size ≤ k
section
variable {Rep : World → Nat → Stk → (Nat → Prop) → Prop} {w0 w : World} {p : Nat} {s : Stk}
theorem SkAt.below (hR : StockW Rep) {w1 : World} (h : SkAt Rep w0 w p s) (hb : Below w.heap.size w w1) : SkAt Rep w0 w1 p s := by
  obtain ⟨h1, h2, F, h3, h4⟩ := h
  exact ⟨h1, h2.trans (hb.mono h2.size), F, hR.later w w1 p s F (fun _ => False) h3 (Turns.of_below hb) (fun _ _ hf => hf), h4⟩
theorem sk_new (hR : StockW Rep) (n : Int) (w : World) : Calls Tryd.prog 4 #[.int .i64 n] w fun e w' => (((n < 0 ∨ 1000000 < n) ∧ Below w.heap.size w w' ∧ ∃ po, e = .returned (.tuple #[.pointer po, .iface 41 (.int .i64 1)])) ∨
     ((0 ≤ n ∧ n ≤ 1000000) ∧ ∃ p, e = .returned (.tuple #[ptK p, .nilIface]) ∧ SkAt Rep w w' p (stk0 n))) := by
  refine (hR.new n w).mono ?_
  rintro e w' ⟨hb, ⟨h1, po, he⟩ | ⟨⟨h0, h1⟩, p, F, he, hr, hf⟩⟩
  · exact .inl ⟨h1, hb, po, he⟩
  · exact .inr ⟨⟨h0, h1⟩, p, he, stkOk0 h0 h1, hb, F, hr, hf⟩
end
end Go.Proofs.YtaodbljpihcjnaaDoor
