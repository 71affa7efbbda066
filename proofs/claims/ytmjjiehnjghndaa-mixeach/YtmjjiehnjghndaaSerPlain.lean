/-
  PROVED HERE: plain facts, with no word of the program: rising lists that have the same members are one; the rising list of the deals of ops; a list sorted is a rising one just if it has its members, each once.
  Conditions: none.
  (Of these, what the claim wants: the rest was left out.)
-/
import Derived.Test.YtmjjiehnjghndaaMgab
import Derived.Test.YtmjjiehnjghndaaMgae
import Derived.Test.YtmjjiehnjghndaaBack
namespace Go.Proofs.Ytmjjiehnjghndaa

theorem rise_nodup {l : List Int} (h : l.Pairwise (· < ·)) : l.Nodup := by
  rw [List.nodup_iff_pairwise_ne]
  exact h.imp fun {a b} hab => by omega
theorem dealsTo_in (l : List Op3) {t : Int} (h1 : 1 ≤ t) (h : hasB l t = true) : ∀ n : Nat, t ≤ n → t ∈ dealsTo l n := by
  intro n
  induction n with
  | zero => intro h2; omega
  | succ n ih =>
    intro h2
    simp only [dealsTo]
    by_cases e : t = (n : Int) + 1
    · subst e; rw [if_pos h]; simp
    · exact List.mem_append_left _ (ih (by omega))
theorem mem_deals {l : List Op3} {t : Int} : t ∈ dealsL l ↔ (1 ≤ t ∧ t ≤ 6 ∧ hasB l t = true) := by
  constructor
  · intro h
    have := dealsTo_mem l 6 t h
    exact ⟨this.1, by have := this.2.1; omega, this.2.2⟩
  · rintro ⟨h1, h2, h3⟩
    exact dealsTo_in l h1 h3 6 (by omega)
theorem hasB_iff {l : List Op3} {t : Int} : hasB l t = true ↔ ∃ o ∈ l, o.1 = t := by simp [hasB]
theorem dealsL_rise (l : List Op3) : (dealsL l).Pairwise (· < ·) := dealsTo_rise l 6
/-- A list sorted. -/
def sortI (o : List Int) : List Int := o.mergeSort fun x y => decide (x ≤ y)
theorem sortI_perm (o : List Int) : (sortI o).Perm o := List.mergeSort_perm o _
theorem sort_perm {o d : List Int} (h : sortI o = d) : o.Perm d := h ▸ (sortI_perm o).symm
/-- The ops of deals along an order. -/
def alongL (d : List Op3) (o : List Int) : List Op3 := o.flatMap fun t => ofL d t
end Go.Proofs.Ytmjjiehnjghndaa
