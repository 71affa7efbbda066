/-
  PROVED HERE: plain facts on lists of edges, with no word of the program: what Check says of them, which deals they name, from which deal an edge leads to which.
  Conditions: none.
  (Of these, what the claim wants: the rest was left out.)
-/
import Derived.Test.YtmjjiehnjghndaaOddPlain
namespace Go.Proofs.Ytmjjiehnjghndaa

def dealB (t : Int) : Bool := decide (1 ≤ t) && decide (t ≤ 6)
def wrongB (e : Edge2) : Bool := !dealB e.1 || !dealB e.2
/-- What is wrong with edges: 4, 1, or 0. -/
def gchk (l : List Edge2) : Int := if 60 < l.length then 4 else if l.any wrongB = true then 1 else 0
theorem gchk_len {l : List Edge2} (h : gchk l = 0) : l.length ≤ 60 := by
  unfold gchk at h
  split at h
  · cases h
  · omega
theorem dealB_iff {t : Int} : dealB t = true ↔ 1 ≤ t ∧ t ≤ 6 := by simp [dealB]
theorem gchk_deal {l : List Edge2} (h : gchk l = 0) : ∀ e ∈ l, (1 ≤ e.1 ∧ e.1 ≤ 6) ∧ (1 ≤ e.2 ∧ e.2 ≤ 6) := by
  intro e he
  unfold gchk at h
  split at h
  · cases h
  · split at h
    · cases h
    · rename_i _ h2
      have h3 : l.any wrongB = false := by simpa using h2
      have h4 := List.any_eq_false.1 h3 e he
      simp only [wrongB, Bool.or_eq_true, Bool.not_eq_true', not_or] at h4
      exact ⟨dealB_iff.1 (by simpa using h4.1), dealB_iff.1 (by simpa using h4.2)⟩
/-- Of which deals it is so; from which to which. -/
abbrev Set7 := Nat → Bool
abbrev Step7 := Nat → Nat → Bool
def namedS (l : List Edge2) : Set7 := fun k => l.any fun e => e.1 == (k : Int) || e.2 == (k : Int)
theorem namedS_snoc (l : List Edge2) (e : Edge2) (k : Nat) : namedS (l ++ [e]) k = (namedS l k || (e.1 == (k : Int) || e.2 == (k : Int))) := by simp [namedS]
end Go.Proofs.Ytmjjiehnjghndaa
