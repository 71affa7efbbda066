/-
  PROVED HERE: plain facts, with no word of the program: a deal that reads one item n times, writes it and commits: its list is right and done, it comes to seven times its number and n + 1, and its Reads are n.
  Conditions: none.
-/
import Derived.Test.YtgnbejemhdcemadPlayPlain
import Derived.Test.YtgnbejemhdcemadBack
namespace Go.Proofs.Ytgnbejemhdcemad

def oneL (t x : Int) (n : Nat) : List Op3 := List.replicate n (t, 1, x) ++ [(t, 2, x), (t, 3, 0)]
theorem oneL_len (t x : Int) (n : Nat) : (oneL t x n).length = n + 2 := by simp [oneL]
theorem oneL_low {t x : Int} {n k : Nat} (h : k < n) : opAt (oneL t x n) k = (t, 1, x) := by
  unfold opAt oneL
  simp [List.getD, List.getElem?_append_left, h]
theorem oneL_write (t x : Int) (n : Nat) : opAt (oneL t x n) n = (t, 2, x) := by
  unfold opAt oneL
  simp [List.getD]
theorem oneL_end (t x : Int) (n : Nat) : opAt (oneL t x n) (n + 1) = (t, 3, 0) := by
  unfold opAt oneL
  simp [List.getD]
theorem oneL_mem {t x : Int} {n : Nat} {o : Op3} (h : o ∈ oneL t x n) : o = (t, 1, x) ∨ o = (t, 2, x) ∨ o = (t, 3, 0) := by
  unfold oneL at h
  rcases List.mem_append.1 h with h | h
  · exact .inl (List.eq_of_mem_replicate h)
  · simpa using Or.inr h
theorem oneL_right {t x : Int} {n : Nat} (ht : 1 ≤ t ∧ t ≤ 6) (hx : 1 ≤ x ∧ x ≤ 6) (hn : n ≤ 29) : (chk (oneL t x n)).2 = 0 := by
  rw [chk_iff]
  refine ⟨by rw [oneL_len]; omega, fun o ho => ?_, ?_⟩
  · have e : ∀ a : Int, decide (a < 1) = false ↔ 1 ≤ a := fun a => by simp
    rcases oneL_mem ho with rfl | rfl | rfl <;> simp [isOpB, endsB] <;> omega
  · unfold Calm oneL
    rw [List.pairwise_append]
    refine ⟨List.pairwise_replicate.2 (.inr (by simp [endsB])), ?_, fun a ha b _ => ?_⟩
    · simp [endsB]
    · rw [List.eq_of_mem_replicate ha]
      simp [endsB]
theorem oneL_done {t x : Int} {n : Nat} (ht : 1 ≤ t ∧ t ≤ 6) : doneL (oneL t x n) = oneL t x n := by
  unfold doneL
  refine List.filter_eq_self.2 fun o ho => ?_
  have h1 : o.1 = t := by rcases oneL_mem ho with rfl | rfl | rfl <;> rfl
  unfold commIn
  refine List.any_eq_true.2 ⟨(t, 3, 0), by simp [oneL], ?_⟩
  rw [h1]
  simp
  omega
theorem oneL_no {t x : Int} {n : Nat} (y : Int) : ∀ k, k ≤ n → valTo (oneL t x n) k y = 0 := by
  intro k
  induction k with
  | zero => intro _; rfl
  | succ k ih =>
    intro hk
    rw [valTo_pass (by rw [oneL_low (by omega)]; simp), ih (by omega)]
theorem oneL_sum {t x : Int} {n : Nat} (u : Int) : ∀ k, k ≤ n → sumTo (oneL t x n) k u = 0 := by
  intro k
  induction k with
  | zero => intro _; rfl
  | succ k ih =>
    intro hk
    by_cases h : (opAt (oneL t x n) k).2.1 = 1 ∧ (opAt (oneL t x n) k).1 = u
    · rw [sumTo_hit h.1 h.2, ih (by omega)]
      unfold readV
      rw [oneL_no _ k (by omega)]
      rfl
    · rw [sumTo_pass h, ih (by omega)]
theorem oneL_nth {t x : Int} {n : Nat} : nthAt (oneL t x n) n = n := by
  unfold nthAt
  rw [oneL_write]
  have : (oneL t x n).take n = List.replicate n (t, 1, x) := by
    unfold oneL
    rw [List.take_append_of_le_length (by simp)]
    simp
  rw [this]
  unfold ofL
  rw [List.filter_eq_self.2 (fun o ho => by rw [List.eq_of_mem_replicate ho]; simp)]
  simp
theorem oneL_val {t x : Int} {n : Nat} (ht : 1 ≤ t ∧ t ≤ 6) (hn : n ≤ 29) : valTo (oneL t x n) (oneL t x n).length x = 7 * t + (n : Int) + 1 := by
  rw [oneL_len, valTo_pass (by rw [oneL_end]; simp), valTo_hit (by rw [oneL_write]) (by rw [oneL_write])]
  unfold wrote
  rw [oneL_write, oneL_nth, oneL_sum t n (Nat.le_refl _)]
  simp only
  omega
theorem oneL_seen {t x : Int} {n : Nat} : (seenTo (oneL t x n) (oneL t x n).length).length = n := by
  have low : ∀ k, k ≤ n → (seenTo (oneL t x n) k).length = k := by
    intro k
    induction k with
    | zero => intro _; rfl
    | succ k ih =>
      intro hk
      rw [seenTo, if_pos (by rw [oneL_low (by omega)]), List.length_append, ih (by omega)]
      rfl
  rw [oneL_len, seenTo, if_neg (by rw [oneL_end]; simp), seenTo, if_neg (by rw [oneL_write]; simp), low n (Nat.le_refl _)]
theorem valsL_at (d : List Op3) {j : Nat} (hj : j < 6) : (valsL d).getD j 0 = valTo d d.length ((j : Int) + 1) := by
  unfold valsL
  simp [List.getD, hj]
theorem valsL_len (d : List Op3) : (valsL d).length = 6 := by simp [valsL]
end Go.Proofs.Ytgnbejemhdcemad
