/-
  PROVED HERE: plain facts, with no word of the program: the edges of laneref2.Anti as a list; nobody is between them just if pivL says so.
  Conditions: none.
  (Of these, what the claim wants: the rest was left out.)
-/
import Derived.Test.YtmgadiopjofegaiDoorKindPlain
import Derived.Test.YtmgadiopjofegaiDoorIntRow
import Derived.Test.YtmgadiopjofegaiDoorEdgeRow
import Derived.Maps.AppendAt
import Derived.Test.YtmgadiopjofegaiDoorOddEdges
namespace Go.Proofs.YtmgadiopjofegaiDoor

theorem mem_addE3 (x e : Edge2) : ∀ l : List Edge2, e ∈ addE l x ↔ e ∈ l ∨ e = x := by
  intro l
  induction l with
  | nil => simp [addE]
  | cons a r ih =>
    unfold addE
    split
    · rw [List.mem_cons, ih, List.mem_cons, or_assoc]
    · split
      · rename_i h
        rw [List.mem_cons]
        constructor
        · exact fun hh => Or.inl hh
        · rintro (hh | hh)
          · exact hh
          · exact Or.inl (hh.trans h.symm)
      · rw [List.mem_cons, List.mem_cons]
        constructor
        · rintro (hh | hh | hh)
          · exact Or.inr hh
          · exact Or.inl (Or.inl hh)
          · exact Or.inl (Or.inr hh)
        · rintro ((hh | hh) | hh)
          · exact Or.inr (Or.inl hh)
          · exact Or.inr (Or.inr hh)
          · exact Or.inl hh
end Go.Proofs.YtmgadiopjofegaiDoor
