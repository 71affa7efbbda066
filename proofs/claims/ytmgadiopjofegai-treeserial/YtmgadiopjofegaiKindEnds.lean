/-
  PROVED HERE: plain facts, with no word of the program: of a run in which deals see what was done (KindPlain): what each wrote, who only reads is done where that is no cause to abort it, who is done asked to commit, and there are no more than six.
  Conditions: none.
  (Of these, what the claim wants: the rest was left out.)
-/
import Derived.Test.YtmgadiopjofegaiValidPlain
namespace Go.Proofs.Ytmgadiopjofegai

theorem sub_len : ∀ (l m : List Int), l.Nodup → (∀ x ∈ l, x ∈ m) → l.length ≤ m.length := by
  intro l
  induction l with
  | nil => exact fun m _ _ => Nat.zero_le _
  | cons a l ih =>
    intro m hn hs
    obtain ⟨h1, h2⟩ := List.nodup_cons.1 hn
    have ha := hs a (List.mem_cons_self ..)
    have := ih (m.erase a) h2 fun x hx => (List.mem_erase_of_ne (show x ≠ a from fun e => h1 (e ▸ hx))).2 (hs x (List.mem_cons_of_mem _ hx))
    rw [List.length_erase_of_mem ha] at this
    have hpos := List.length_pos_of_mem ha
    rw [List.length_cons]
    omega
theorem six_len {l : List Int} (hn : l.Nodup) (h : ∀ x ∈ l, 1 ≤ x ∧ x ≤ 6) : l.length ≤ 6 :=
  sub_len l [1, 2, 3, 4, 5, 6] hn fun x hx => by
    have := h x hx
    simp
    omega
end Go.Proofs.Ytmgadiopjofegai
