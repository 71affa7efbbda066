/-
  PROVED HERE: a Stock in memory beside two arrays of seven numbers that a statement keeps: what becomes of them when the Stock is asked, and when a number of an array is set.
  Conditions: package stock's contract (StockW).
-/
import Derived.Test.YtaodbljpihcjnaaDoorSkAsk
import Derived.Test.YtaodbljpihcjnaaDoorSkRows
namespace Go.Proofs.YtaodbljpihcjnaaDoor
open Go.RowKit

def arr7 (f : Int → Int) : Array Value := #[.int .i64 0, .int .i64 (f 1), .int .i64 (f 2), .int .i64 (f 3), .int .i64 (f 4), .int .i64 (f 5), .int .i64 (f 6)]
theorem arr7_set (f : Int → Int) {t : Int} (h1 : 1 ≤ t) (h6 : t ≤ 6) (x : Int) : (arr7 f).setIfInBounds t.toNat (.int .i64 x) = arr7 (putK f t x) := by
  rcases six_of h1 h6 with rfl | rfl | rfl | rfl | rfl | rfl <;> simp [arr7, putK]
theorem arr7_get (f : Int → Int) {t : Int} (h1 : 1 ≤ t) (h6 : t ≤ 6) : (arr7 f)[t.toNat]? = some (.int .i64 (f t)) := by
  rcases six_of h1 h6 with rfl | rfl | rfl | rfl | rfl | rfl <;> simp [arr7]
theorem block_setP {w : World} {T k : Nat} {cs : Array Value} {ty : TypeId} {u : Value} (h : w.heap[T]? = some (.cells cs ty (0, 0))) : (w.setCell ⟨T, k, none⟩ u).heap[T]? = some (.cells (cs.setIfInBounds k u) ty (0, 0)) := by
  unfold World.setCell
  simp [Array.getElem?_modify, h]
/-- The sum of the first k. -/
def sumTo (f : Int → Int) : Nat → Int
  | 0 => 0
  | k + 1 => sumTo f k + f ((k : Int) + 1)
theorem sumTo_six (f : Int → Int) : sumTo f 6 = sumS f := by simp [sumTo, sumS]
theorem sumTo_le {f : Int → Int} (h : ∀ t, 0 ≤ f t) : ∀ k, k ≤ 6 → 0 ≤ sumTo f k ∧ sumTo f k ≤ sumS f := by
  have key : ∀ k, 0 ≤ sumTo f k := fun k => by
    induction k with
    | zero => exact Int.le_refl _
    | succ k ih => have := h ((k : Int) + 1); unfold sumTo; omega
  have mono : ∀ a b, sumTo f a ≤ sumTo f (a + b) := fun a b => by
    induction b with
    | zero => exact Int.le_refl _
    | succ b ih => have := h (((a + b : Nat) : Int) + 1); show _ ≤ sumTo f (a + b) + f (((a + b : Nat) : Int) + 1); omega
  intro k hk
  refine ⟨key k, ?_⟩
  have := mono k (6 - k)
  rw [show k + (6 - k) = 6 by omega, sumTo_six] at this
  exact this
/-- The Stock stands as s, the arrays as sa. -/
structure PlAt (Rep : World → Nat → Stk → (Nat → Prop) → Prop) (w0 w : World) (p : Nat) (s sa : Stk) (A T : Nat) : Prop where
  ok : StkOk s
  old : Below w0.heap.size w0 w
  rep : ∃ F, Rep w p s F ∧ (∀ k, F k → w0.heap.size ≤ k) ∧ ¬ F A ∧ ¬ F T
  add : w.heap[A]? = some (.cells (arr7 sa.add) 29 (0, 0))
  take : w.heap[T]? = some (.cells (arr7 sa.take) 29 (0, 0))
  ne : A ≠ T
  newA : w0.heap.size ≤ A
  newT : w0.heap.size ≤ T
section
variable {Rep : World → Nat → Stk → (Nat → Prop) → Prop} {w0 w : World} {p A T : Nat} {s sa : Stk}
theorem PlAt.ltA (h : PlAt Rep w0 w p s sa A T) : A < w.heap.size := (Array.getElem?_eq_some_iff.1 h.add).1
theorem PlAt.ltT (h : PlAt Rep w0 w p s sa A T) : T < w.heap.size := (Array.getElem?_eq_some_iff.1 h.take).1
theorem PlAt.cA (h : PlAt Rep w0 w p s sa A T) {t : Int} (h1 : 1 ≤ t) (h6 : t ≤ 6) : w.cell? ⟨A, t.toNat, none⟩ = some (.int .i64 (sa.add t)) := by rw [cell_of_row w A _ _ _ _ h.add]; exact arr7_get _ h1 h6
theorem PlAt.cT (h : PlAt Rep w0 w p s sa A T) {t : Int} (h1 : 1 ≤ t) (h6 : t ≤ 6) : w.cell? ⟨T, t.toNat, none⟩ = some (.int .i64 (sa.take t)) := by rw [cell_of_row w T _ _ _ _ h.take]; exact arr7_get _ h1 h6
theorem PlAt.fA (h : PlAt Rep w0 w p s sa A T) (k : Nat) : w.frozen? ⟨A, k, none⟩ = false := by simp [World.frozen?, h.add]
theorem PlAt.fT (h : PlAt Rep w0 w p s sa A T) (k : Nat) : w.frozen? ⟨T, k, none⟩ = false := by simp [World.frozen?, h.take]
theorem PlAt.turn {w1 : World} {s1 : Stk} {F F' : Nat → Prop} (h : PlAt Rep w0 w p s sa A T) (hok : StkOk s1) (h0 : ∀ k, F k → w0.heap.size ≤ k) (hA : ¬ F A) (hT : ¬ F T) (hr : Rep w1 p s1 F') (ht : Turns F w w1) (hf : ∀ k, F' k → F k ∨ w.heap.size ≤ k) : PlAt Rep w0 w1 p s1 sa A T := by
  refine ⟨hok, h.old.trans (ht.below h.old.size fun k hk hf => by have := h0 k hf; omega), ⟨F', hr, fun k hk => ?_, fun hk => ?_, fun hk => ?_⟩, (ht.block A h.ltA hA).trans h.add, (ht.block T h.ltT hT).trans h.take, h.ne, h.newA, h.newT⟩
  · rcases hf k hk with h5 | h5
    · exact h0 k h5
    · exact Nat.le_trans h.old.size h5
  · rcases hf A hk with h5 | h5
    · exact hA h5
    · have := h.ltA; omega
  · rcases hf T hk with h5 | h5
    · exact hT h5
    · have := h.ltT; omega
theorem PlAt.below (hR : StockW Rep) {w1 : World} (h : PlAt Rep w0 w p s sa A T) (hb : Below w.heap.size w w1) : PlAt Rep w0 w1 p s sa A T := by
  obtain ⟨F, h3, h4, h5, h6⟩ := h.rep
  exact ⟨h.ok, h.old.trans (hb.mono h.old.size), ⟨F, hR.later w w1 p s F (fun _ => False) h3 (Turns.of_below hb) (fun _ _ hf => hf), h4, h5, h6⟩, (hb.block A h.ltA).trans h.add, (hb.block T h.ltT).trans h.take, h.ne, h.newA, h.newT⟩
theorem PlAt.setT (hR : StockW Rep) (h : PlAt Rep w0 w p s sa A T) {t : Int} (h1 : 1 ≤ t) (h6 : t ≤ 6) (x : Int) : PlAt Rep w0 (w.setCell ⟨T, t.toNat, none⟩ (.int .i64 x)) p s { sa with take := putK sa.take t x } A T := by
  obtain ⟨F, r1, r2, r3, r4⟩ := h.rep
  have ht : Turns (fun k => k = T) w (w.setCell ⟨T, t.toNat, none⟩ (.int .i64 x)) := Turns.setCell (F := fun k => k = T) (Turns.refl _ w) (p := ⟨T, t.toNat, none⟩) (.inl rfl) _
  refine ⟨h.ok, h.old.setCell (p := ⟨T, t.toNat, none⟩) h.newT _, ⟨F, hR.later _ _ p s F _ r1 ht fun k hk e => r4 (e ▸ hk), r2, r3, r4⟩, ?_, ?_, h.ne, h.newA, h.newT⟩
  · exact (ht.block A h.ltA h.ne).trans h.add
  · rw [block_setP h.take, arr7_set _ h1 h6]
theorem PlAt.setA (hR : StockW Rep) (h : PlAt Rep w0 w p s sa A T) {t : Int} (h1 : 1 ≤ t) (h6 : t ≤ 6) (x : Int) : PlAt Rep w0 (w.setCell ⟨A, t.toNat, none⟩ (.int .i64 x)) p s { sa with add := putK sa.add t x } A T := by
  obtain ⟨F, r1, r2, r3, r4⟩ := h.rep
  have ht : Turns (fun k => k = A) w (w.setCell ⟨A, t.toNat, none⟩ (.int .i64 x)) := Turns.setCell (F := fun k => k = A) (Turns.refl _ w) (p := ⟨A, t.toNat, none⟩) (.inl rfl) _
  refine ⟨h.ok, h.old.setCell (p := ⟨A, t.toNat, none⟩) h.newA _, ⟨F, hR.later _ _ p s F _ r1 ht fun k hk e => r3 (e ▸ hk), r2, r3, r4⟩, ?_, ?_, h.ne, h.newA, h.newT⟩
  · rw [block_setP h.add, arr7_set _ h1 h6]
  · exact (ht.block T h.ltT fun e => h.ne e.symm).trans h.take
theorem pl_ask (hR : StockW Rep) (h : PlAt Rep w0 w p s sa A T) (t d : Int) : Calls Tryd.prog 7 #[ptK p, .int .i64 t, .int .i64 d] w fun e w' => e = .returned (.tuple #[.bool (askB s t d), errV (askE t d)]) ∧ PlAt Rep w0 w' p (askS s t d) sa A T := by
  obtain ⟨F, r1, r2, r3, r4⟩ := h.rep
  refine (hR.ask w p s F t d r1 h.ok).mono ?_
  rintro e w' ⟨he, F', hr, ht, hf⟩
  exact ⟨he, PlAt.turn h (askS_ok h.ok t d) r2 r3 r4 hr ht hf⟩
theorem pl_end (hR : StockW Rep) (h : PlAt Rep w0 w p s sa A T) (t : Int) (c : Bool) : Calls Tryd.prog 8 #[ptK p, .int .i64 t, .bool c] w fun e w' => e = .returned (.tuple #[.int .i64 (endV s t c), errV (endE s t)]) ∧ PlAt Rep w0 w' p (endS s t c) sa A T := by
  obtain ⟨F, r1, r2, r3, r4⟩ := h.rep
  refine (hR.end_ w p s F t c r1 h.ok).mono ?_
  rintro e w' ⟨he, F', hr, ht, hf⟩
  exact ⟨he, PlAt.turn h (endS_ok h.ok t c) r2 r3 r4 hr ht hf⟩
theorem pl_now (hR : StockW Rep) (h : PlAt Rep w0 w p s sa A T) : Calls Tryd.prog 10 #[ptK p] w fun e w' => e = .returned (.int .i64 s.now) ∧ Below w.heap.size w w' := by
  obtain ⟨F, r1, _⟩ := h.rep
  exact hR.now w p s F r1 h.ok
theorem pl_range (hR : StockW Rep) (h : PlAt Rep w0 w p s sa A T) : Calls Tryd.prog 9 #[ptK p] w fun e w' => e = .returned (.tuple #[.int .i64 (lowK s), .int .i64 (highK s)]) ∧ Below w.heap.size w w' := by
  obtain ⟨F, r1, _⟩ := h.rep
  exact hR.range w p s F r1 h.ok
/-- Two arrays are made beside a Stock just made. -/
theorem pl_made (hR : StockW Rep) (h : SkAt Rep w0 w p s) (hz : s.add = (fun _ => 0) ∧ s.take = (fun _ => 0)) : PlAt Rep w0 ((w.alloc (.cells #[.int .i64 0, .int .i64 0, .int .i64 0, .int .i64 0, .int .i64 0, .int .i64 0, .int .i64 0] 29)).alloc (.cells #[.int .i64 0, .int .i64 0, .int .i64 0, .int .i64 0, .int .i64 0, .int .i64 0, .int .i64 0] 29)) p s s w.heap.size (w.heap.size + 1) := by
  obtain ⟨h1, h2, F, r1, r2⟩ := h
  have hlt := hR.lt w p s F r1
  have hb : Below w.heap.size w ((w.alloc (.cells #[.int .i64 0, .int .i64 0, .int .i64 0, .int .i64 0, .int .i64 0, .int .i64 0, .int .i64 0] 29)).alloc (.cells #[.int .i64 0, .int .i64 0, .int .i64 0, .int .i64 0, .int .i64 0, .int .i64 0, .int .i64 0] 29)) := ((Below.refl _ w).alloc (Nat.le_refl _) _).alloc (by simp) _
  refine ⟨h1, h2.trans (hb.mono h2.size), ⟨F, hR.later w _ p s F (fun _ => False) r1 (Turns.of_below hb) (fun _ _ hf => hf), r2, fun hf => ?_, fun hf => ?_⟩, ?_, ?_, by omega, h2.size, by have := h2.size; omega⟩
  · have := hlt _ hf; omega
  · have := hlt _ hf; omega
  · rw [hz.1]; exact (Below.heap_alloc _ _ _ (by simp)).trans (heap_alloc_new w _)
  · rw [hz.2]
    have := heap_alloc_new (w.alloc (.cells #[.int .i64 0, .int .i64 0, .int .i64 0, .int .i64 0, .int .i64 0, .int .i64 0, .int .i64 0] 29)) (.cells #[.int .i64 0, .int .i64 0, .int .i64 0, .int .i64 0, .int .i64 0, .int .i64 0, .int .i64 0] 29)
    rwa [World.size_alloc] at this
end
end Go.Proofs.YtaodbljpihcjnaaDoor
