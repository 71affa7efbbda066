/-
  PROVED HERE: plain facts, with no word of the program: the first ring of so many in which no deal comes twice; where there is none of fewer, it is the first that goes around at all.
  Conditions: none.
-/
import Derived.Test.YtjaeaanpbdmfgabDoorGraphEitherPlain
namespace Go.Proofs.YtjaeaanpbdmfgabDoor

def okR (m : Step7) (r : List Nat) (t : Nat) : Bool := !decide (t ∈ r) && okB m r t
def growR (m : Step7) : Nat → List Nat → Option (List Nat)
  | 0, r => if m (lastN r) (headN r) = true then some r else none
  | f + 1, r => [1, 2, 3, 4, 5, 6].findSome? fun t => if okR m r t = true then growR m f (r ++ [t]) else none
theorem growR_hit {m : Step7} {f : Nat} {r q : List Nat} {t : Nat} (h1 : 1 ≤ t) (h6 : t ≤ 6) (ho : okR m r t = true) (hf : growR m f (r ++ [t]) = some q) (hno : ∀ j, 1 ≤ j → j < t → okR m r j = true → growR m f (r ++ [j]) = none) : growR m (f + 1) r = some q := by
  have hn : ∀ j, 1 ≤ j → j < t → (if okR m r j = true then growR m f (r ++ [j]) else none) = none := fun j a b => by
    by_cases h : okR m r j = true
    · rw [if_pos h]; exact hno j a b h
    · rw [if_neg h]
  have hh : (if okR m r t = true then growR m f (r ++ [t]) else none) = some q := by rw [if_pos ho]; exact hf
  unfold growR
  rcases (show t = 1 ∨ t = 2 ∨ t = 3 ∨ t = 4 ∨ t = 5 ∨ t = 6 by omega) with e | e | e | e | e | e <;> subst e
  · simp only [List.findSome?_cons, hh]
  · simp only [List.findSome?_cons, hh, hn 1 (by omega) (by omega)]
  · simp only [List.findSome?_cons, hh, hn 1 (by omega) (by omega), hn 2 (by omega) (by omega)]
  · simp only [List.findSome?_cons, hh, hn 1 (by omega) (by omega), hn 2 (by omega) (by omega), hn 3 (by omega) (by omega)]
  · simp only [List.findSome?_cons, hh, hn 1 (by omega) (by omega), hn 2 (by omega) (by omega), hn 3 (by omega) (by omega), hn 4 (by omega) (by omega)]
  · simp only [List.findSome?_cons, hh, hn 1 (by omega) (by omega), hn 2 (by omega) (by omega), hn 3 (by omega) (by omega), hn 4 (by omega) (by omega), hn 5 (by omega) (by omega)]
theorem growR_none {m : Step7} {f : Nat} {r : List Nat} (hno : ∀ j, 1 ≤ j → j < 7 → okR m r j = true → growR m f (r ++ [j]) = none) : growR m (f + 1) r = none := by
  unfold growR
  rw [List.findSome?_eq_none_iff]
  intro j hj
  have : 1 ≤ j ∧ j < 7 := by simp at hj; omega
  by_cases h : okR m r j = true
  · rw [if_pos h]; exact hno j this.1 this.2 h
  · rw [if_neg h]
theorem find_same {a b : Nat → Option (List Nat)} : ∀ (l : List Nat), (∀ t ∈ l, a t = b t) → l.findSome? a = l.findSome? b := by
  intro l
  induction l with
  | nil => intro _; rfl
  | cons x r ih =>
    intro h
    rw [List.findSome?_cons, List.findSome?_cons, h x (List.mem_cons_self ..), ih fun t ht => h t (List.mem_cons_of_mem _ ht)]
/-- Where nothing goes around by fewer, no deal comes twice. -/
theorem grow_same {m : Step7} {n : Nat} (hmin : ∀ j, 1 ≤ j → j < n → growF m j [] = none) : ∀ (f : Nat) (r : List Nat), r.length + f = n → lin m r = true → (∀ k ∈ r, 1 ≤ k ∧ k ≤ 6) → growF m f r = growR m f r := by
  intro f
  induction f with
  | zero => intro r _ _ _; rfl
  | succ f ih =>
    intro r hn hl hd
    unfold growF growR
    refine find_same _ fun t ht => ?_
    have ht6 : 1 ≤ t ∧ t ≤ 6 := by simp at ht; omega
    by_cases ho : okB m r t = true
    · have hnot : t ∉ r := fun hm => by
        obtain ⟨a, b, rfl⟩ := List.append_of_mem hm
        have hring : IsRing m (t :: b) := by
          refine ⟨fun k hk => hd k (List.mem_append_right _ hk), lin_right hl, ?_⟩
          have e : lastN (a ++ t :: b) = lastN (t :: b) := by
            simp [lastN, List.getLastD_eq_getLast?, List.getLast?_cons]
          rw [okB_cons (by simp), e] at ho
          exact ho
        have h1 := hmin (t :: b).length (by simp) (by simp at hn ⊢; omega)
        exact grow_full hring (t :: b) [] rfl h1
      have hr : okR m r t = true := by unfold okR; rw [ho]; simp [hnot]
      rw [if_pos ho, if_pos hr]
      refine ih (r ++ [t]) (by simp; omega) (lin_snoc hl ho) fun k hk => ?_
      rcases List.mem_append.1 hk with hk | hk
      · exact hd k hk
      · rw [List.mem_singleton.1 hk]; exact ht6
    · have hr : ¬ okR m r t = true := fun h => by
        unfold okR at h
        rw [Bool.and_eq_true] at h
        exact ho h.2
      rw [if_neg ho, if_neg hr]
end Go.Proofs.YtjaeaanpbdmfgabDoor
