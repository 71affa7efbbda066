/-
  PROVED HERE: plain facts, with no word of the program: which grip on a tree is wrong, and how (chapter 16); which deals come behind which; of grips that are legal these have an order.
  Conditions: none.
  (Of these, what the claim wants: the rest was left out.)
-/
import Derived.Test.YtmgadiopjofegaiDoorTreePlain
import Derived.Test.YtmgadiopjofegaiDoorOddEdges
import Derived.Test.YtmgadiopjofegaiDoorGraphEitherPlain
import Derived.Test.YtmgadiopjofegaiDoorKindPlain
namespace Go.Proofs.YtmgadiopjofegaiDoor

def badG (up : List Int) (l : List Grip3) (i : Nat) : Bool := gripE up (stG l i) (gAt l i) != 0
def firstG (up : List Int) (l : List Grip3) : Nat → Option Nat
  | 0 => none
  | k + 1 => match firstG up l k with | some i => some i | none => if badG up l k = true then some k else none
/-- Which grip is wrong, and how. -/
def gripsR (up : List Int) (l : List Grip3) : Int × Int :=
  if treeE up ≠ 0 then (0, treeE up) else if 40 < l.length then (0, 4) else match firstG up l l.length with | none => (0, 0) | some i => ((i : Int), gripE up (stG l i) (gAt l i))
theorem firstG_none {up : List Int} {l : List Grip3} : ∀ n, firstG up l n = none → ∀ i, i < n → badG up l i = false := by
  intro n
  induction n with
  | zero => intro _ i hi; omega
  | succ n ih =>
    intro h i hi
    unfold firstG at h
    cases hx : firstG up l n with
    | some j => rw [hx] at h; cases h
    | none =>
      rw [hx] at h
      simp only at h
      have hb : badG up l n = false := by
        cases hy : badG up l n with
        | false => rfl
        | true => rw [hy, if_pos rfl] at h; cases h
      rcases Nat.lt_or_ge i n with e | e
      · exact ih hx i e
      · rw [show i = n by omega]; exact hb
theorem treeOk_of {up : List Int} (h : treeE up = 0) : TreeOk up := by
  intro x hx hl
  unfold treeE at h
  split at h
  · cases h
  · split at h
    · cases h
    · split at h
      · cases h
      · rename_i h3
        simp at h3
        have h5 := h3 (x - 1).toNat (by omega) (by omega)
        unfold upOf
        rw [List.getD_eq_getElem?_getD]
        omega
/-- Which deal locked an item ahead of which. -/
def aheadB (l : List Grip3) (e : Edge2) : Bool := (List.range l.length).any fun i => (List.range l.length).any fun k => decide (i < k) && ((gAt l i).2.2 && ((gAt l k).2.2 && ((gAt l i).2.1 == (gAt l k).2.1 && ((gAt l i).1 == e.1 && (gAt l k).1 == e.2))))
theorem aheadB_iff {l : List Grip3} {e : Edge2} : aheadB l e = true ↔ ∃ x, Ahead l e.1 e.2 x := by
  unfold aheadB
  simp only [List.any_eq_true, List.mem_range, Bool.and_eq_true, decide_eq_true_eq, beq_iff_eq]
  constructor
  · rintro ⟨i, hi, k, hk, hik, a1, a2, a3, a4, a5⟩
    refine ⟨(gAt l i).2.1, i, k, hik, ⟨hi, ?_⟩, ⟨hk, ?_⟩⟩
    · rw [← a4, ← a1]
    · rw [← a5, a3, ← a2]
  · rintro ⟨x, i, k, hik, ⟨hi, h1⟩, ⟨hk, h2⟩⟩
    exact ⟨i, hi, k, hk, hik, by rw [h1], by rw [h2], by rw [h1, h2], by rw [h1], by rw [h2]⟩
def gripL (l : List Grip3) : List Edge2 := allE.filter (aheadB l)
theorem allE_six {e : Edge2} (h : e ∈ allE) : (1 ≤ e.1 ∧ e.1 ≤ 6) ∧ (1 ≤ e.2 ∧ e.2 ≤ 6) := by
  unfold allE at h
  obtain ⟨n, hn, rfl⟩ := List.mem_map.1 h
  rw [List.mem_range] at hn
  simp only
  omega
end Go.Proofs.YtmgadiopjofegaiDoor
