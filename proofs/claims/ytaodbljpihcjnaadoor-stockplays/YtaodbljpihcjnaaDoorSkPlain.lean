/-
  PROVED HERE: plain facts, with no word of the program: chapter 17 as functions on what there is, and what is to be added and taken by each deal; there is never less than none, nor more than may be.
  Conditions: none.
  (Of these, what the claim wants: the rest was left out.)
-/
import Derived.Test.YtaodbljpihcjnaaDoorProg
namespace Go.Proofs.YtaodbljpihcjnaaDoor

def putK (f : Int → Int) (t : Int) (x : Int) : Int → Int := fun j => if j = t then x else f j
theorem putK_same (f : Int → Int) (t : Int) (x : Int) : putK f t x t = x := if_pos rfl
theorem putK_other (f : Int → Int) {t d : Int} (x : Int) (h : d ≠ t) : putK f t x d = f d := if_neg h
/-- What there is; what each deal is to add; what each is to take. -/
structure Stk where
  now : Int
  add : Int → Int
  take : Int → Int
def sumS (f : Int → Int) : Int := f 1 + f 2 + f 3 + f 4 + f 5 + f 6
def lowK (s : Stk) : Int := s.now - sumS s.take
def highK (s : Stk) : Int := s.now + sumS s.add
def stk0 (n : Int) : Stk := ⟨n, fun _ => 0, fun _ => 0⟩
/-- What is told of an Ask: what is wrong, whether it may, what there is then. -/
def askE (t d : Int) : Int := if t < 1 ∨ 6 < t ∨ d = 0 ∨ d < -1000000 ∨ 1000000 < d then 1 else 0
def askB (s : Stk) (t d : Int) : Bool := askE t d == 0 && (if d < 0 then decide (0 ≤ lowK s + d) else decide (highK s + d ≤ 1000000))
def askS (s : Stk) (t d : Int) : Stk := if askB s t d = true then (if d < 0 then { s with take := putK s.take t (s.take t - d) } else { s with add := putK s.add t (s.add t + d) }) else s
/-- .. of an End. -/
def endE (s : Stk) (t : Int) : Int := if t < 1 ∨ 6 < t then 1 else if s.add t = 0 ∧ s.take t = 0 then 5 else 0
def endN (s : Stk) (t : Int) (c : Bool) : Int := if c = true then s.now + s.add t - s.take t else s.now
def endV (s : Stk) (t : Int) (c : Bool) : Int := if endE s t = 0 then endN s t c else 0
def endS (s : Stk) (t : Int) (c : Bool) : Stk := if endE s t = 0 then ⟨endN s t c, putK s.add t 0, putK s.take t 0⟩ else s
structure StkOk (s : Stk) : Prop where
  low : 0 ≤ lowK s
  high : highK s ≤ 1000000
  add : ∀ t, 0 ≤ s.add t
  take : ∀ t, 0 ≤ s.take t
theorem six_of {t : Int} (h1 : 1 ≤ t) (h6 : t ≤ 6) : t = 1 ∨ t = 2 ∨ t = 3 ∨ t = 4 ∨ t = 5 ∨ t = 6 := by omega
theorem sumS_set (f : Int → Int) {t : Int} (h1 : 1 ≤ t) (h6 : t ≤ 6) (x : Int) : sumS (putK f t x) = sumS f - f t + x := by
  unfold sumS
  rcases six_of h1 h6 with rfl | rfl | rfl | rfl | rfl | rfl <;> simp [putK] <;> omega
theorem sumS_ge {f : Int → Int} (h : ∀ t, 0 ≤ f t) {t : Int} (h1 : 1 ≤ t) (h6 : t ≤ 6) : f t ≤ sumS f := by
  have := h 1; have := h 2; have := h 3; have := h 4; have := h 5; have := h 6
  unfold sumS
  rcases six_of h1 h6 with rfl | rfl | rfl | rfl | rfl | rfl <;> omega
theorem sumS_pos {f : Int → Int} (h : ∀ t, 0 ≤ f t) : 0 ≤ sumS f := by
  have := h 1; have := h 2; have := h 3; have := h 4; have := h 5; have := h 6
  unfold sumS
  omega
theorem sumS_zero {f : Int → Int} (h : ∀ t, 1 ≤ t → t ≤ 6 → f t = 0) : sumS f = 0 := by
  unfold sumS
  rw [h 1 (by decide) (by decide), h 2 (by decide) (by decide), h 3 (by decide) (by decide), h 4 (by decide) (by decide), h 5 (by decide) (by decide), h 6 (by decide) (by decide)]
  rfl
theorem stkOk0 {n : Int} (h0 : 0 ≤ n) (h1 : n ≤ 1000000) : StkOk (stk0 n) := by
  refine ⟨?_, ?_, fun _ => Int.le_refl _, fun _ => Int.le_refl _⟩
  · show 0 ≤ n - _; unfold sumS stk0; simp; exact h0
  · show n + _ ≤ _; unfold sumS stk0; simp; exact h1
theorem askE_zero {t d : Int} (h : askE t d = 0) : 1 ≤ t ∧ t ≤ 6 ∧ d ≠ 0 ∧ -1000000 ≤ d ∧ d ≤ 1000000 := by
  unfold askE at h
  split at h
  · cases h
  · omega
theorem askB_true {s : Stk} {t d : Int} (h : askB s t d = true) : askE t d = 0 ∧ (d < 0 → 0 ≤ lowK s + d) ∧ (¬ d < 0 → highK s + d ≤ 1000000) := by
  unfold askB at h
  rw [Bool.and_eq_true, beq_iff_eq] at h
  obtain ⟨h1, h2⟩ := h
  refine ⟨h1, fun hd => ?_, fun hd => ?_⟩
  · rw [if_pos hd] at h2; exact of_decide_eq_true h2
  · rw [if_neg hd] at h2; exact of_decide_eq_true h2
theorem askS_ok {s : Stk} (h : StkOk s) (t d : Int) : StkOk (askS s t d) := by
  unfold askS
  split
  · rename_i hb
    obtain ⟨h1, h2, h3⟩ := askB_true hb
    obtain ⟨t1, t6, d0, dl, dh⟩ := askE_zero h1
    split
    · rename_i hd
      have := h2 hd
      refine ⟨?_, h.high, h.add, fun u => ?_⟩
      · show 0 ≤ s.now - sumS (putK s.take t (s.take t - d))
        rw [sumS_set _ t1 t6]
        unfold lowK at this
        omega
      · show 0 ≤ putK s.take t (s.take t - d) u
        have := h.take t
        have := h.take u
        unfold putK
        split <;> omega
    · rename_i hd
      have := h3 hd
      refine ⟨h.low, ?_, fun u => ?_, h.take⟩
      · show s.now + sumS (putK s.add t (s.add t + d)) ≤ 1000000
        rw [sumS_set _ t1 t6]
        unfold highK at this
        omega
      · show 0 ≤ putK s.add t (s.add t + d) u
        have := h.add t
        have := h.add u
        unfold putK
        split <;> omega
  · exact h
theorem endE_zero {s : Stk} {t : Int} (h : endE s t = 0) : 1 ≤ t ∧ t ≤ 6 := by
  unfold endE at h
  split at h
  · cases h
  · omega
theorem endS_ok {s : Stk} (h : StkOk s) (t : Int) (c : Bool) : StkOk (endS s t c) := by
  unfold endS
  split
  · rename_i he
    obtain ⟨t1, t6⟩ := endE_zero he
    have a0 := h.add t
    have b0 := h.take t
    have a1 := sumS_ge h.add t1 t6
    have b1 := sumS_ge h.take t1 t6
    have hl := h.low
    have hh := h.high
    unfold lowK at hl
    unfold highK at hh
    refine ⟨?_, ?_, fun u => ?_, fun u => ?_⟩
    · show 0 ≤ endN s t c - sumS (putK s.take t 0)
      rw [sumS_set _ t1 t6]
      unfold endN
      split <;> omega
    · show endN s t c + sumS (putK s.add t 0) ≤ 1000000
      rw [sumS_set _ t1 t6]
      unfold endN
      split <;> omega
    · show 0 ≤ putK s.add t 0 u
      have := h.add u
      unfold putK
      split <;> omega
    · show 0 ≤ putK s.take t 0 u
      have := h.take u
      unfold putK
      split <;> omega
  · exact h
/-- What there is is between what there can be. -/
theorem stk_between {s : Stk} (h : StkOk s) : lowK s ≤ s.now ∧ s.now ≤ highK s := by
  have := sumS_pos h.add
  have := sumS_pos h.take
  unfold lowK highK
  omega
theorem ask_now (s : Stk) (t d : Int) : (askS s t d).now = s.now := by
  unfold askS
  split
  · split <;> rfl
  · rfl
end Go.Proofs.YtaodbljpihcjnaaDoor
