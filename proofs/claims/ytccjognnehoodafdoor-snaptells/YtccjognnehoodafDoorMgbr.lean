/-
  PROVED HERE: slices.Contains, Equal, Sort and Clone at lists of numbers, in the words of these texts: a list that lies in memory, a list that the call itself has made. Old memory stays as it was.
  Conditions: none.
  PROVED HERE: package snap's Together keeps what it is asked (TogC). Old memory stays as it was.
  Conditions: none.
-/
import Derived.Test.YtccjognnehoodafDoorMgbq
import Derived.Test.YtccjognnehoodafDoorMgbn
import Derived.Test.YtccjognnehoodafDoorMgbh
import Derived.Sort.OwnSortedInts
import Derived.Deep.Onto
import Derived.Laws.AppendOwnNone
import Derived.Lib.SliceRun
import Derived.WalkSmall
namespace Go.Proofs.YtccjognnehoodafDoor
open Go.RowKit Go.Sort

theorem contains_ints (l : List Int) (v : Value) (x : Int) (w : World) (hI : IsInts w v l) (hl : l.length ≤ 1000) :
    Calls Tryd.prog 58 #[v, .int .i64 x] w fun e w' => e = .returned (.bool (inB l x)) ∧ w' = w := by
  obtain ⟨ad, b, off, cap, rfl, ha, -, -, hc⟩ := hI
  by_cases h0 : l = []
  · subst h0
    exact Any.slices_Contains_int_empty Tryd.lays107 ad cap x w
  · obtain rfl := ha (List.length_pos_iff.2 h0)
    refine (Any.slices_Contains_int Tryd.lays107 b off l.length cap l x w (Nat.le_refl _) (by omega) hc).mono ?_
    rintro e w' ⟨he, hw⟩
    rw [List.take_length] at he
    exact ⟨he, hw⟩
theorem beq_len {l m : List Int} (h : l.length ≠ m.length) : (l == m) = false := by
  rw [beq_eq_false_iff_ne]
  intro e
  exact h (by rw [e])
theorem sort_own (zs : List Int) (v : Value) (base n : Nat) (w : World) (hn : zs.length = n) (hl : zs.length ≤ 1000) (h : w.ownsRow base 3 1 v n (zs.map (Value.int .i64))) :
    Calls Tryd.prog 29 #[v] w fun e w' => e = .returned (.tuple #[]) ∧ w'.ownsRow base 3 1 v n ((sortI zs).map (Value.int .i64)) ∧ w.grownBy w' v.ownBlock := by
  subst hn
  obtain ⟨h0, ⟨hv, hz⟩ | ⟨g, cap, cur, hv, hbase, hb, h1, h2, h3, h4⟩⟩ := h
  · subst hv
    refine (Any.slices_Sort_int_none Tryd.lays189 none 0 w).mono ?_
    rintro e w' ⟨he, hw⟩
    have e0 : zs = [] := List.length_eq_zero_iff.1 hz
    subst e0
    rw [hw]
    exact ⟨he, ⟨by simp [sortI], .inl ⟨rfl, rfl⟩⟩, ⟨rfl, rfl, rfl, Nat.le_refl _, fun _ _ _ => rfl⟩⟩
  · subst hv
    refine (Any.slices_Sort_int Tryd.lays189 g 0 cap zs w (holds_of_blockI hb (by simpa using h4)) (Array.getElem?_eq_some_iff.1 hb).1 (by omega)).mono ?_
    rintro e w' ⟨he, n, os, hw⟩
    rw [hw]
    exact ⟨he, ownsRow_sortedI (sortI_perm zs).length_eq hbase hb h1 h2 h3, grownBy_sortedI _⟩

end Go.Proofs.YtccjognnehoodafDoor

namespace Go.Proofs.YtccjognnehoodafDoor

theorem togC : TogC 11 := tog_sort fun zs v base n w hn hl h => sort_own zs v base n w hn hl h
end Go.Proofs.YtccjognnehoodafDoor
