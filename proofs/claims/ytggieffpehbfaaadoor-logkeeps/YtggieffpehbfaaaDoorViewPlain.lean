/-
  PROVED HERE: plain facts, with no word of the program: who wrote an item last, what each op reads, and that the two ways to say that two lists look the same are one; the Reads and from whom; the first order by numbers of which something is so.
  Conditions: none.
  (Of these, what the claim wants: the rest was left out.)
-/
import Derived.Test.YtggieffpehbfaaaDoorOddSame
namespace Go.Proofs.YtggieffpehbfaaaDoor

/-- The place of the last Write of an item among the first k. -/
def wrTo (l : List Op3) (x : Int) : Nat → Option Nat
  | 0 => none
  | k + 1 => if (opAt l k).2.1 = 2 ∧ (opAt l k).2.2 = x then some k else wrTo l x k
theorem wrTo_hit {l : List Op3} {x : Int} {k : Nat} (h1 : (opAt l k).2.1 = 2) (h2 : (opAt l k).2.2 = x) : wrTo l x (k + 1) = some k := by simp [wrTo, h1, h2]
theorem wrTo_pass {l : List Op3} {x : Int} {k : Nat} (h : ¬ ((opAt l k).2.1 = 2 ∧ (opAt l k).2.2 = x)) : wrTo l x (k + 1) = wrTo l x k := by rw [wrTo, if_neg h]
theorem wrTo_some {l : List Op3} {x : Int} : ∀ {k j : Nat}, wrTo l x k = some j → j < k ∧ (opAt l j).2.1 = 2 ∧ (opAt l j).2.2 = x ∧ ∀ i, j < i → i < k → ¬ ((opAt l i).2.1 = 2 ∧ (opAt l i).2.2 = x) := by
  intro k
  induction k with
  | zero => intro j h; cases h
  | succ k ih =>
    intro j h
    by_cases hk : (opAt l k).2.1 = 2 ∧ (opAt l k).2.2 = x
    · rw [wrTo_hit hk.1 hk.2] at h
      obtain rfl := Option.some.inj h
      exact ⟨by omega, hk.1, hk.2, fun i h1 h2 => by omega⟩
    · rw [wrTo_pass hk] at h
      obtain ⟨h1, h2, h3, h4⟩ := ih h
      refine ⟨by omega, h2, h3, fun i i1 i2 => ?_⟩
      rcases Nat.lt_or_ge i k with e | e
      · exact h4 i i1 e
      · rw [show i = k by omega]; exact hk
theorem wrTo_none {l : List Op3} {x : Int} : ∀ {k : Nat}, wrTo l x k = none → ∀ i, i < k → ¬ ((opAt l i).2.1 = 2 ∧ (opAt l i).2.2 = x) := by
  intro k
  induction k with
  | zero => intro _ i hi; omega
  | succ k ih =>
    intro h i hi
    by_cases hk : (opAt l k).2.1 = 2 ∧ (opAt l k).2.2 = x
    · rw [wrTo_hit hk.1 hk.2] at h; cases h
    · rw [wrTo_pass hk] at h
      rcases Nat.lt_or_ge i k with e | e
      · exact ih h i e
      · rw [show i = k by omega]; exact hk
/-- No name. -/
def zN : Op3 × Nat := ((0, 0, 0), 0)
/-- The name of the Write that was last of an item, among the first k. -/
def lastW (l : List Op3) (k : Nat) (x : Int) : Op3 × Nat := match wrTo l x k with | none => zN | some j => nameAt l j
theorem lastW_none {l : List Op3} {k : Nat} {x : Int} (h : wrTo l x k = none) : lastW l k x = zN := by rw [lastW, h]
theorem lastW_some {l : List Op3} {k j : Nat} {x : Int} (h : wrTo l x k = some j) : lastW l k x = nameAt l j := by rw [lastW, h]
theorem isOp_deal {o : Op3} (h : isOpB o = true) : 1 ≤ o.1 ∧ o.1 ≤ 6 := by
  simp [isOpB] at h; omega
theorem isOp_item {o : Op3} (h : isOpB o = true) (h2 : o.2.1 = 1 ∨ o.2.1 = 2) : 1 ≤ o.2.2 ∧ o.2.2 ≤ 6 := by
  rcases h2 with e | e <;> simp [isOpB, endsB, e] at h <;> omega
theorem name_parts {h g : List Op3} {i k : Nat} (hn : nameAt h i = nameAt g k) : opAt h i = opAt g k ∧ nthAt h i = nthAt g k := by
  unfold nameAt at hn; simpa using hn
theorem nth_mono {l : List Op3} {i k : Nat} (h : i ≤ k) (he : (opAt l i).1 = (opAt l k).1) : nthAt l i ≤ nthAt l k := by
  unfold nthAt ofL
  rw [he]
  refine List.Sublist.length_le (List.Sublist.filter _ ?_)
  rw [show l.take i = (l.take k).take i by rw [List.take_take, Nat.min_eq_left h]]
  exact List.take_sublist _ _
theorem deals_symm {h g : List Op3} (hd : dealsEq h g) : dealsEq g h := fun t h1 h2 => (hd t h1 h2).symm
/-- A beginning of an order: deals, each once. -/
structure Begun (ds b : List Int) : Prop where
  once : b.Nodup
  all : ∀ x ∈ b, x ∈ ds
theorem Begun.nil (ds : List Int) : Begun ds [] := ⟨List.nodup_nil, fun x hx => by cases hx⟩
end Go.Proofs.YtggieffpehbfaaaDoor
