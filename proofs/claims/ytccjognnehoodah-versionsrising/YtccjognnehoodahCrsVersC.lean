/-
  PROVED HERE: slices.DeleteFunc at a row of numbers of one's own, for any closure that only reads; package versions' Run keeps what it is asked (RunsC). Old memory stays as it was.
  Conditions: none.
-/
import Derived.Test.YtccjognnehoodahCrsVers
import Derived.Test.YtccjognnehoodahSerLib
namespace Go.Proofs.Ytccjognnehoodah
open Go.RowKit Go.Sort

theorem grown_of_belowQ {w W : World} {row : Option Nat} (h : Below w.heap.size w W) : w.grownBy W row := ⟨h.os, h.tape, h.output, h.size, fun k hk _ => h.block k hk⟩
set_option maxHeartbeats 2000000 in
theorem delC : DelC := by
  intro ds p N C v base n w hn hl h eg hB
  subst hn
  obtain ⟨h0, ⟨hv, hz⟩ | ⟨g, cap, cur, hv, hbase, hb1, h1, h2, h3, h4⟩⟩ := h
  · subst hv
    have e0 : ds = [] := List.length_eq_zero_iff.1 hz
    subst e0
    clear hB h0 hz
    go_enter Try.func26, Try.ntmps26
    go_wp2_with (go_at_call 45; refine (AnyE.slices_IndexFunc_empty Try.laysSlH6_f45 none 0 _ _).mono ?_; rintro e w' ⟨rfl, rfl⟩)
    go_ret
    exact ⟨_, rfl, isInts_nil _, ⟨rfl, rfl, rfl, Nat.le_refl _, fun _ _ _ => rfl⟩⟩
  · subst hv
    have hcon := AnyE.slices_DeleteFunc Try.laysSlH10_f26 (Value.int .i64) (fun _ => rfl) p N C eg 0 Try.zeroValue3 g 0 cap ds.toArray w
      (fun W x hbw => hB W x (grown_of_belowQ hbw))
      (fun q os dk x _ => hB _ x (grownBy_sortedI dk))
      (holds_of_blockI hb1 (by simpa using h4)) (by simp; omega) (by simpa using h1)
    have e1 : ds.toArray.toList = ds := rfl
    have e2 : ds.toArray.size = ds.length := rfl
    rw [e1, e2] at hcon
    change Calls Try.prog 26 _ _ _ at hcon
    refine hcon.mono ?_
    rintro e w' ⟨he, q, hw⟩
    obtain ⟨fs, hfs⟩ : ∃ fs, (ds.filter fun x => !p x) = fs := ⟨_, rfl⟩
    have hfl : fs.length ≤ ds.length := by rw [← hfs]; exact List.length_filter_le ..
    rw [hfs] at he hw ⊢
    have hrow := ownsRow_sortedI (w := w) (n := q) (os := #[]) (e := 3) (ts := fs ++ List.replicate (ds.length - fs.length) 0) (by simp; omega) hbase hb1 h1 h2 h3
    have hgr := grownBy_sortedI (w := w) (g := g) (n := q) (os := #[]) (fs ++ List.replicate (ds.length - fs.length) 0).toArray
    rw [grow_empty, ← hw] at hrow hgr
    refine ⟨_, he, ⟨some ⟨g, 0, none⟩, g, 0, cap, rfl, fun _ => rfl, fun h => (by cases h), .inl (by have := (hrow.lt g rfl).2; exact this), fun i hi => ?_⟩, hgr⟩
    have := hrow.cells (g := g) rfl i (.int .i64 (fs.getD i 0)) (by
      rw [List.getElem?_map, List.getElem?_append_left hi]
      simp [List.getD, List.getElem?_eq_getElem hi])
    rw [Addr.add_lit] at this
    exact this
theorem sortCV : SortC := fun zs v base n w hn hl h => sort_own zs v base n w hn hl h
theorem versC : RunsC 5 4 okN true := vers_sort sortCV delC
end Go.Proofs.Ytccjognnehoodah
