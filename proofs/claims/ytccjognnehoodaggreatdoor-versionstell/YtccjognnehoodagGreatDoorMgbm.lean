/-
  PROVED HERE: slices.Contains, Equal, Sort and Clone at lists of numbers, in the words of these texts: a list that lies in memory, a list that the call itself has made. Old memory stays as it was.
  Conditions: none.
  PROVED HERE: slices.DeleteFunc at a row of numbers of one's own, for any closure that only reads; package versions' Run keeps what it is asked (RunsC). Old memory stays as it was.
  Conditions: none.
-/
import Derived.Test.YtccjognnehoodagGreatDoorMgbl
import Derived.Test.YtccjognnehoodagGreatDoorMgba
import Derived.Test.YtccjognnehoodagGreatDoorMgbd
import Derived.Sort.OwnSortedInts
import Derived.Deep.Onto
import Derived.Laws.AppendOwnNone
import Derived.Lib.SliceRun
import Derived.WalkSmall
namespace Go.Proofs.YtccjognnehoodagGreatDoor
open Go.RowKit Go.Sort

theorem contains_ints (l : List Int) (v : Value) (x : Int) (w : World) (hI : IsInts w v l) (hl : l.length ≤ 1000) :
    Calls Tryz.prog 93 #[v, .int .i64 x] w fun e w' => e = .returned (.bool (inB l x)) ∧ w' = w := by
  obtain ⟨ad, b, off, cap, rfl, ha, -, -, hc⟩ := hI
  by_cases h0 : l = []
  · subst h0
    exact Any.slices_Contains_int_empty Tryz.lays107 ad cap x w
  · obtain rfl := ha (List.length_pos_iff.2 h0)
    refine (Any.slices_Contains_int Tryz.lays107 b off l.length cap l x w (Nat.le_refl _) (by omega) hc).mono ?_
    rintro e w' ⟨he, hw⟩
    rw [List.take_length] at he
    exact ⟨he, hw⟩
theorem beq_len {l m : List Int} (h : l.length ≠ m.length) : (l == m) = false := by
  rw [beq_eq_false_iff_ne]
  intro e
  exact h (by rw [e])
theorem sort_own (zs : List Int) (v : Value) (base n : Nat) (w : World) (hn : zs.length = n) (hl : zs.length ≤ 1000) (h : w.ownsRow base 3 1 v n (zs.map (Value.int .i64))) :
    Calls Tryz.prog 77 #[v] w fun e w' => e = .returned (.tuple #[]) ∧ w'.ownsRow base 3 1 v n ((sortI zs).map (Value.int .i64)) ∧ w.grownBy w' v.ownBlock := by
  subst hn
  obtain ⟨h0, ⟨hv, hz⟩ | ⟨g, cap, cur, hv, hbase, hb, h1, h2, h3, h4⟩⟩ := h
  · subst hv
    refine (Any.slices_Sort_int_none Tryz.lays189 none 0 w).mono ?_
    rintro e w' ⟨he, hw⟩
    have e0 : zs = [] := List.length_eq_zero_iff.1 hz
    subst e0
    rw [hw]
    exact ⟨he, ⟨by simp [sortI], .inl ⟨rfl, rfl⟩⟩, ⟨rfl, rfl, rfl, Nat.le_refl _, fun _ _ _ => rfl⟩⟩
  · subst hv
    refine (Any.slices_Sort_int Tryz.lays189 g 0 cap zs w (holds_of_blockI hb (by simpa using h4)) (Array.getElem?_eq_some_iff.1 hb).1 (by omega)).mono ?_
    rintro e w' ⟨he, n, os, hw⟩
    rw [hw]
    exact ⟨he, ownsRow_sortedI (sortI_perm zs).length_eq hbase hb h1 h2 h3, grownBy_sortedI _⟩

end Go.Proofs.YtccjognnehoodagGreatDoor

namespace Go.Proofs.YtccjognnehoodagGreatDoor
open Go.RowKit Go.Sort

theorem grown_of_belowQ {w W : World} {row : Option Nat} (h : Below w.heap.size w W) : w.grownBy W row := ⟨h.os, h.tape, h.output, h.size, fun k hk _ => h.block k hk⟩
set_option maxHeartbeats 2000000 in
theorem delC : DelC := by
  intro ds p N C v base n w hn hl h eg hB
  subst hn
  obtain ⟨h0, ⟨hv, hz⟩ | ⟨g, cap, cur, hv, hbase, hb1, h1, h2, h3, h4⟩⟩ := h
  · subst hv
    have e0 : ds = [] := List.length_eq_zero_iff.1 hz
    subst e0
    clear hB h0 hz
    go_enter Tryz.func57, Tryz.ntmps57
    go_wp2_with (go_at_call 88; refine (AnyE.slices_IndexFunc_empty Tryz.laysSlH6_f88 none 0 _ _).mono ?_; rintro e w' ⟨rfl, rfl⟩)
    go_ret
    exact ⟨_, rfl, isInts_nil _, ⟨rfl, rfl, rfl, Nat.le_refl _, fun _ _ _ => rfl⟩⟩
  · subst hv
    have hcon := AnyE.slices_DeleteFunc Tryz.laysSlH10_f57 (Value.int .i64) (fun _ => rfl) p N C eg 0 Tryz.zeroValue3 g 0 cap ds.toArray w
      (fun W x hbw => hB W x (grown_of_belowQ hbw))
      (fun q os dk x _ => hB _ x (grownBy_sortedI dk))
      (holds_of_blockI hb1 (by simpa using h4)) (by simp; omega) (by simpa using h1)
    have e1 : ds.toArray.toList = ds := rfl
    have e2 : ds.toArray.size = ds.length := rfl
    rw [e1, e2] at hcon
    change Calls Tryz.prog 57 _ _ _ at hcon
    refine hcon.mono ?_
    rintro e w' ⟨he, q, hw⟩
    obtain ⟨fs, hfs⟩ : ∃ fs, (ds.filter fun x => !p x) = fs := ⟨_, rfl⟩
    have hfl : fs.length ≤ ds.length := by rw [← hfs]; exact List.length_filter_le ..
    rw [hfs] at he hw ⊢
    have hrow := ownsRow_sortedI (w := w) (n := q) (os := #[]) (e := 3) (ts := fs ++ List.replicate (ds.length - fs.length) 0) (by simp; omega) hbase hb1 h1 h2 h3
    have hgr := grownBy_sortedI (w := w) (g := g) (n := q) (os := #[]) (fs ++ List.replicate (ds.length - fs.length) 0).toArray
    rw [grow_empty, ← hw] at hrow hgr
    refine ⟨_, he, ⟨some ⟨g, 0, none⟩, g, 0, cap, rfl, fun _ => rfl, fun h => (by cases h), .inl (by have := (hrow.lt g rfl).2; exact this), fun i hi => ?_⟩, hgr⟩
    have := hrow.cells (g := g) rfl i (.int .i64 (fs.getD i 0)) (by
      rw [List.getElem?_map, List.getElem?_append_left hi]
      simp [List.getD, List.getElem?_eq_getElem hi])
    rw [Addr.add_lit] at this
    exact this
theorem sortCV : SortC := fun zs v base n w hn hl h => sort_own zs v base n w hn hl h
theorem versC : RunsC 16 4 okN true := vers_sort sortCV delC
end Go.Proofs.YtccjognnehoodagGreatDoor
