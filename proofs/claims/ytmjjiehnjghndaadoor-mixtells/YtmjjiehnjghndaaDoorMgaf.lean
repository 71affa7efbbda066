/-
  PROVED HERE: plain facts, with no word of the program: the least deal that waits for nobody who is waiting; the order that is made of such ones, one behind the other.
  Conditions: none.
  PROVED HERE: plain facts, with no word of the program: ways of at least one edge; what going along all edges from a deal on, once to each, sees.
  Conditions: none.
  (Of these, what the claim wants: the rest was left out.)
-/
import Derived.Test.YtmjjiehnjghndaaDoorMgae
namespace Go.Proofs.YtmjjiehnjghndaaDoor

/-- A deal is held by one that is waiting; it is next, if it waits and nobody holds it. -/
def holdB (s : Set7) (t : Nat) (e : Edge2) : Bool := e.2 == (t : Int) && s e.1.toNat
def freeB (l : List Edge2) (s : Set7) (t : Nat) : Bool := s t && !l.any (holdB s t)
def nextN (l : List Edge2) (s : Set7) : Nat :=
  if freeB l s 1 then 1 else if freeB l s 2 then 2 else if freeB l s 3 then 3 else if freeB l s 4 then 4 else if freeB l s 5 then 5 else if freeB l s 6 then 6 else 0
theorem next_hit {l : List Edge2} {s : Set7} {t : Nat} (h1 : 1 ≤ t) (h6 : t ≤ 6) (hf : freeB l s t = true) (hb : ∀ j, 1 ≤ j → j < t → freeB l s j = false) : nextN l s = t := by
  unfold nextN
  rcases (show t = 1 ∨ t = 2 ∨ t = 3 ∨ t = 4 ∨ t = 5 ∨ t = 6 by omega) with e | e | e | e | e | e <;> subst e
  · simp [hf]
  · simp [hf, hb 1 (by omega) (by omega)]
  · simp [hf, hb 1 (by omega) (by omega), hb 2 (by omega) (by omega)]
  · simp [hf, hb 1 (by omega) (by omega), hb 2 (by omega) (by omega), hb 3 (by omega) (by omega)]
  · simp [hf, hb 1 (by omega) (by omega), hb 2 (by omega) (by omega), hb 3 (by omega) (by omega), hb 4 (by omega) (by omega)]
  · simp [hf, hb 1 (by omega) (by omega), hb 2 (by omega) (by omega), hb 3 (by omega) (by omega), hb 4 (by omega) (by omega), hb 5 (by omega) (by omega)]
theorem next_none {l : List Edge2} {s : Set7} (hb : ∀ j, 1 ≤ j → j < 7 → freeB l s j = false) : nextN l s = 0 := by
  unfold nextN
  simp [hb 1 (by omega) (by omega), hb 2 (by omega) (by omega), hb 3 (by omega) (by omega), hb 4 (by omega) (by omega), hb 5 (by omega) (by omega), hb 6 (by omega) (by omega)]
theorem next_cases (l : List Edge2) (s : Set7) : (nextN l s = 0 ∧ ∀ j, 1 ≤ j → j < 7 → freeB l s j = false) ∨ (1 ≤ nextN l s ∧ nextN l s ≤ 6 ∧ freeB l s (nextN l s) = true ∧ ∀ j, 1 ≤ j → j < nextN l s → freeB l s j = false) := by
  have hw : (∀ j, 1 ≤ j → j < 7 → freeB l s j = false) ∨ ∃ t, 1 ≤ t ∧ t ≤ 6 ∧ freeB l s t = true ∧ ∀ j, 1 ≤ j → j < t → freeB l s j = false := by
    have : ∀ n, n ≤ 7 → (∀ j, 1 ≤ j → j < n → freeB l s j = false) ∨ ∃ t, 1 ≤ t ∧ t < n ∧ freeB l s t = true ∧ ∀ j, 1 ≤ j → j < t → freeB l s j = false := by
      intro n
      induction n with
      | zero => intro _; exact .inl fun j _ h => absurd h (by omega)
      | succ n ih =>
        intro hn
        rcases ih (by omega) with h | ⟨t, a, b, c⟩
        · by_cases h0 : n = 0
          · exact .inl fun j h1 h2 => absurd h1 (by omega)
          · cases hf : freeB l s n with
            | false =>
              refine .inl fun j h1 h2 => ?_
              rcases Nat.lt_or_ge j n with h' | h'
              · exact h j h1 h'
              · rw [show j = n by omega]; exact hf
            | true => exact .inr ⟨n, by omega, by omega, hf, h⟩
        · exact .inr ⟨t, a, by omega, c⟩
    rcases this 7 (by omega) with h | ⟨t, a, b, c, d⟩
    · exact .inl h
    · exact .inr ⟨t, a, by omega, c, d⟩
  rcases hw with h | ⟨t, a, b, c, d⟩
  · exact .inl ⟨next_none h, h⟩
  · rw [next_hit a b c d]; exact .inr ⟨a, b, c, d⟩
def setS (s : Set7) (t : Nat) (x : Bool) : Set7 := fun k => if k = t then x else s k
/-- How many wait. -/
def cntS (s : Set7) : Nat := (s 0).toNat + (s 1).toNat + (s 2).toNat + (s 3).toNat + (s 4).toNat + (s 5).toNat + (s 6).toNat
def anyS (s : Set7) : Bool := (List.range 7).any s
theorem cnt_set {s : Set7} {t : Nat} (ht : t < 7) (h : s t = true) : cntS (setS s t false) + 1 = cntS s := by
  unfold cntS setS
  rcases (show t = 0 ∨ t = 1 ∨ t = 2 ∨ t = 3 ∨ t = 4 ∨ t = 5 ∨ t = 6 by omega) with e | e | e | e | e | e | e <;> subst e <;> simp [h] <;> omega
theorem cnt_any {s : Set7} (h : anyS s = true) : 0 < cntS s := by
  unfold anyS at h
  obtain ⟨k, hk, hs⟩ := List.any_eq_true.1 h
  have := List.mem_range.1 hk
  unfold cntS
  rcases (show k = 0 ∨ k = 1 ∨ k = 2 ∨ k = 3 ∨ k = 4 ∨ k = 5 ∨ k = 6 by omega) with e | e | e | e | e | e | e <;> subst e <;> rw [hs] <;> simp only [Bool.toNat_true] <;> omega
theorem cnt_le (s : Set7) : cntS s ≤ 7 := by
  unfold cntS
  have h : ∀ b : Bool, b.toNat ≤ 1 := by decide
  have := h (s 0); have := h (s 1); have := h (s 2); have := h (s 3); have := h (s 4); have := h (s 5); have := h (s 6)
  omega
/-- The order, as far as it goes; none: it goes around. -/
def orderGo (l : List Edge2) : Nat → Set7 → List Int → Option (List Int)
  | 0, _, out => some out
  | n + 1, s, out => if anyS s = true then (if nextN l s = 0 then none else orderGo l n (setS s (nextN l s) false) (out ++ [(nextN l s : Int)])) else some out
def orderL (l : List Edge2) : Option (List Int) := orderGo l 7 (namedS l) []
theorem orderGo_end {l : List Edge2} {n : Nat} {s : Set7} {out : List Int} (h : anyS s = false) : orderGo l n s out = some out := by
  cases n with
  | zero => rfl
  | succ n => simp [orderGo, h]
theorem orderGo_stop {l : List Edge2} {n : Nat} {s : Set7} {out : List Int} (hn : cntS s ≤ n) (h : anyS s = true) (h0 : nextN l s = 0) : orderGo l n s out = none := by
  have := cnt_any h
  match n, hn with
  | 0, hn => omega
  | n + 1, _ => simp [orderGo, h, h0]
theorem orderGo_on {l : List Edge2} {n : Nat} {s : Set7} {out : List Int} (hn : cntS s ≤ n) (h : anyS s = true) (h0 : nextN l s ≠ 0) : orderGo l n s out = orderGo l (n - 1) (setS s (nextN l s) false) (out ++ [(nextN l s : Int)]) := by
  have := cnt_any h
  match n, hn with
  | 0, hn => omega
  | n + 1, _ => simp [orderGo, h, h0]
end Go.Proofs.YtmjjiehnjghndaaDoor

namespace Go.Proofs.YtmjjiehnjghndaaDoor

/-- A way of so many edges and one more. -/
def wayN (m : Step7) : Nat → Nat → Nat → Prop
  | 0, x, y => m x y = true
  | n + 1, x, y => ∃ z, m x z = true ∧ wayN m n z y
/-- A way of at least one edge. -/
def Way (m : Step7) (x y : Nat) : Prop := ∃ n, wayN m n x y
theorem Way.one {m : Step7} {x y : Nat} (h : m x y = true) : Way m x y := ⟨0, h⟩
theorem Way.more {m : Step7} {x y z : Nat} (h : m x y = true) (hw : Way m y z) : Way m x z := by
  obtain ⟨n, hn⟩ := hw
  exact ⟨n + 1, y, h, hn⟩
theorem way_ind {m : Step7} {R : Nat → Nat → Prop} (h1 : ∀ x y, m x y = true → R x y) (h2 : ∀ x y z, m x y = true → Way m y z → R y z → R x z) {x y : Nat} (h : Way m x y) : R x y := by
  obtain ⟨n, hn⟩ := h
  induction n generalizing x with
  | zero => exact h1 x y hn
  | succ n ih =>
    obtain ⟨z, hz, hn⟩ := hn
    exact h2 x z y hz ⟨n, hn⟩ (ih hn)
theorem Way.trans {m : Step7} {x y z : Nat} (h : Way m x y) (k : Way m y z) : Way m x z :=
  way_ind (R := fun a b => Way m b z → Way m a z) (fun _ _ h1 k => .more h1 k) (fun _ _ _ h1 _ ih k => .more h1 (ih k)) h k
/-- What was seen ahead, what is seen behind the edges to the first n deals. -/
structure Seen (m : Step7) (x n : Nat) (s r : Set7) : Prop where
  keep : ∀ y, s y = true → r y = true
  way : ∀ y, r y = true → s y = true ∨ Way m x y
  all : ∀ j, j < n → m x j = true → r j = true
  shut : ∀ y, r y = true → s y = false → ∀ z, z < 7 → m y z = true → r z = true
theorem Seen.skip {m : Step7} {x n : Nat} {s r : Set7} (h : Seen m x n s r) (hn : m x n = false ∨ r n = true) : Seen m x (n + 1) s r where
  keep := h.keep
  way := h.way
  all := fun j hj hm => by
    rcases Nat.lt_or_ge j n with h1 | h1
    · exact h.all j h1 hm
    · have e : j = n := by omega
      subst e
      rcases hn with h2 | h2
      · rw [h2] at hm; cases hm
      · exact h2
  shut := h.shut
theorem setS_same (s : Set7) (t : Nat) (x : Bool) : setS s t x t = x := by simp [setS]
theorem setS_other (s : Set7) {t y : Nat} (x : Bool) (h : y ≠ t) : setS s t x y = s y := by simp [setS, h]
end Go.Proofs.YtmjjiehnjghndaaDoor
