/-
  PROVED HERE: plain facts, with no word of the program: of a Log's records those that are whole among the bytes that a crash leaves are told by the last mark that is not beyond them, as lanelaw3.LogKeeps looks for it.
  Conditions: none.
-/
import Derived.Test.YtggieffpehbfaaaDoorLgPlain
namespace Go.Proofs.YtggieffpehbfaaaDoor

/-- Where records end, with the beginning. -/
def marksL (s : Lg) : List Nat := 0 :: s.ends
/-- The last of the first n marks that is not beyond. -/
def markTo (m : List Nat) (h : Nat) : Nat → Nat
  | 0 => 0
  | n + 1 => if m.getD n 0 ≤ h then n else markTo m h n
theorem mark_count {ends : List Nat} (hr : ends.Pairwise fun a b => a + 2 ≤ b) (h : Nat) : ∀ n, n ≤ ends.length → markTo (0 :: ends) h (n + 1) = ((ends.take n).filter fun e => decide (e ≤ h)).length := by
  intro n
  induction n with
  | zero => intro _; simp [markTo]
  | succ n ih =>
    intro hn
    have hlt : n < ends.length := by omega
    have e1 : (0 :: ends).getD (n + 1) 0 = ends[n] := by simp [List.getD, List.getElem?_eq_getElem hlt]
    show (if (0 :: ends).getD (n + 1) 0 ≤ h then n + 1 else markTo (0 :: ends) h (n + 1)) = _
    rw [e1, ih (by omega), List.take_succ_eq_append_getElem hlt, List.filter_append]
    by_cases hh : ends[n] ≤ h
    · rw [if_pos hh]
      have hall : (ends.take n).filter (fun e => decide (e ≤ h)) = ends.take n := List.filter_eq_self.2 fun x hx => by
        obtain ⟨i, hi, rfl⟩ := List.getElem_of_mem hx
        have hin : i < n := by rw [List.length_take] at hi; omega
        have := List.pairwise_iff_getElem.1 hr i n (by omega) hlt hin
        rw [List.getElem_take]
        simp
        omega
      rw [hall, List.length_append, List.length_take]
      simp [hh]
      omega
    · rw [if_neg hh]
      simp [hh]
/-- How far a crash leaves bytes, as the law reckons it. -/
def highI (all was keep : Int) : Int := if 0 < keep ∧ keep < all - was then was + keep else if 0 < keep then all else was
theorem LgOk.safeB {s : Lg} (h : LgOk s) : s.safe ≤ s.bytes := by
  rcases h.safe with e | e
  · omega
  · have := rise_last h.rise e
    have := h.low
    omega
theorem high_is {s : Lg} (h : LgOk s) (keep : Int) : highI s.bytes s.safe keep = (highL s keep : Int) := by
  have hs := h.safeB
  unfold highI highL
  split
  · omega
  · split
    · omega
    · omega
theorem mark_left {s : Lg} (h : LgOk s) (keep : Int) : markTo (marksL s) (highL s keep) (s.hist.length + 1) = leftL s keep := by
  unfold marksL leftL
  rw [mark_count h.rise _ _ (by rw [h.len]; exact Nat.le_refl _), List.take_of_length_le (by rw [h.len]; exact Nat.le_refl _)]
theorem left_le {s : Lg} (h : LgOk s) (keep : Int) : leftL s keep ≤ s.hist.length := by
  unfold leftL
  rw [← h.len]
  exact List.length_filter_le ..
/-- Behind a crash: what is left, where its records end, how many bytes there are. -/
theorem crash_is {s : Lg} (h : LgOk s) (keep : Int) : (crashS s keep).hist = s.hist.take (leftL s keep) ∧ marksL (crashS s keep) = (marksL s).take (leftL s keep + 1) ∧ (crashS s keep).bytes = (marksL s).getD (leftL s keep) 0 ∧ (crashS s keep).safe = (marksL s).getD (leftL s keep) 0 := by
  have hl : leftL s keep ≤ s.ends.length := by rw [h.len]; exact left_le h keep
  have key : lastE (s.ends.take (leftL s keep)) = (marksL s).getD (leftL s keep) 0 := by
    obtain ⟨n, hn⟩ : ∃ n, leftL s keep = n := ⟨_, rfl⟩
    rw [hn] at hl ⊢
    unfold marksL
    cases n with
    | zero => rfl
    | succ n => rw [List.take_succ_eq_append_getElem (by omega), lastE_snoc]; simp [List.getD, List.getElem?_eq_getElem (show n < s.ends.length by omega)]
  exact ⟨rfl, rfl, key, key⟩
theorem crash_cut {s : Lg} (h : LgOk s) (keep : Int) : (crashS s keep).hist.length = leftL s keep ∧ leftL s keep ≤ s.hist.length ∧ (crashS s keep).bytes = (marksL (crashS s keep)).getD (leftL s keep) 0 ∧ (crashS s keep).safe = (marksL (crashS s keep)).getD (leftL s keep) 0 := by
  obtain ⟨c1, c2, c3, c4⟩ := crash_is h keep
  have hl := left_le h keep
  have e : (marksL (crashS s keep)).getD (leftL s keep) 0 = (marksL s).getD (leftL s keep) 0 := by
    rw [c2]
    simp [List.getD]
  exact ⟨by rw [c1, List.length_take]; omega, hl, by rw [e]; exact c3, by rw [e]; exact c4⟩
/-- .. behind a Do that is done. -/
theorem marks_does (s : Lg) (o : Op3) (n : Nat) : marksL ⟨s.hist ++ [o], s.ends ++ [s.bytes + n], s.bytes + n, s.safe, lessO s.left, false⟩ = marksL s ++ [s.bytes + n] := rfl
theorem marks_len {s : Lg} (h : LgOk s) : (marksL s).length = s.hist.length + 1 := by unfold marksL; rw [List.length_cons, h.len]
end Go.Proofs.YtggieffpehbfaaaDoor
