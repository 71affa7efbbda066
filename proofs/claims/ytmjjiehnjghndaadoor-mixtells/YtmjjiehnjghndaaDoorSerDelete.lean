/-
  PROVED HERE: slices.DeleteFunc, with the closure of serial.Order, at a list of numbers that the call itself has made: what is left are those that are not in the order. Nothing else turns.
  Conditions: the order is of at most 10 numbers and lies in other memory.
-/
import Derived.Test.YtmjjiehnjghndaaDoorSerWeave
import Derived.BigQuiet
namespace Go.Proofs.YtmjjiehnjghndaaDoor
open Go.RowKit Go.Sort

/-- The closure of serial.Order, in whatever world holds the order. -/
theorem bound_gives (bs : List Int) (bv : Value) (c : Nat) (x : Int) (W : World) (hc : W.cell? ⟨c, 0, none⟩ = some bv) (hI : IsInts W bv bs) (hl : bs.length ≤ 10) :
    FnGives Tryd.prog 39 #[.pointer (some ⟨c, 0, none⟩)] #[.int .i64 x] (.bool (inB bs x)) W := by
  show Calls Tryd.prog 39 #[.int .i64 x, .pointer (some ⟨c, 0, none⟩)] W _
  go_enter Tryd.func39, Tryd.ntmps39
  go_wp2_with (go_at_call 40; refine (contains_ints bs bv x _ hI (by omega)).mono ?_; rintro e w' ⟨rfl, rfl⟩)
  go_ret
  exact ⟨rfl, 0, rfl⟩
theorem grown_of_belowD {w W : World} {row : Option Nat} (h : Below w.heap.size w W) : w.grownBy W row := ⟨h.os, h.tape, h.output, h.size, fun k hk _ => h.block k hk⟩
set_option maxHeartbeats 2000000 in
theorem delete_own (ds bs : List Int) (v bv : Value) (c base n : Nat) (w : World) (hn : ds.length = n) (hl : ds.length ≤ 10) (hb : bs.length ≤ 10) (h : w.ownsRow base 3 1 v n (ds.map (Value.int .i64)))
    (hB : ∀ W, w.grownBy W v.ownBlock → W.cell? ⟨c, 0, none⟩ = some bv ∧ IsInts W bv bs) :
    Calls Tryd.prog 42 #[v, .func (.func 39) #[] #[.pointer (some ⟨c, 0, none⟩)]] w fun e w' => ∃ v', e = .returned v' ∧ IsRow w' v' (ds.filter fun x => !inB bs x) ∧ w.grownBy w' v.ownBlock := by
  subst hn
  obtain ⟨h0, ⟨hv, hz⟩ | ⟨g, cap, cur, hv, hbase, hb1, h1, h2, h3, h4⟩⟩ := h
  · subst hv
    have e0 : ds = [] := List.length_eq_zero_iff.1 hz
    subst e0
    clear hB h0 hz
    go_enter Tryd.func42, Tryd.ntmps42
    go_wp2_with (go_at_call 60; refine (AnyE.slices_IndexFunc_empty Tryd.laysSlH6_f60 none 0 _ _).mono ?_; rintro e w' ⟨rfl, rfl⟩)
    go_ret
    exact ⟨_, rfl, ⟨none, 0, 0, 0, rfl, Nat.le_refl _, fun h => absurd h (by simp), fun _ => rfl, .inr rfl, fun i hi => by simp at hi⟩, ⟨rfl, rfl, rfl, Nat.le_refl _, fun _ _ _ => rfl⟩⟩
  · subst hv
    have eg : ∀ args w, (callFunc 39 args).run Tryd.prog w = .ok (.enter 39 args) w := enters_of Tryd.func39 (by kernel_rfl) rfl
    have hcon := AnyE.slices_DeleteFunc Tryd.laysSlH10_f42 (Value.int .i64) (fun _ => rfl) (fun x => inB bs x) 39 #[.pointer (some ⟨c, 0, none⟩)] eg 0 Tryd.zeroValue3 g 0 cap ds.toArray w
      (fun W x hbw => bound_gives bs bv c x W (hB W (grown_of_belowD hbw)).1 (hB W (grown_of_belowD hbw)).2 hb)
      (fun q os dk x _ => bound_gives bs bv c x _ (hB _ (grownBy_sortedI dk)).1 (hB _ (grownBy_sortedI dk)).2 hb)
      (holds_of_blockI hb1 (by simpa using h4)) (by simp; omega) (by simpa using h1)
    have e1 : ds.toArray.toList = ds := rfl
    have e2 : ds.toArray.size = ds.length := rfl
    rw [e1, e2] at hcon
    change Calls Tryd.prog 42 _ _ _ at hcon
    refine hcon.mono ?_
    rintro e w' ⟨he, q, hw⟩
    obtain ⟨fs, hfs⟩ : ∃ fs, (ds.filter fun x => !inB bs x) = fs := ⟨_, rfl⟩
    have hfl : fs.length ≤ ds.length := by rw [← hfs]; exact List.length_filter_le ..
    rw [hfs] at he hw ⊢
    have hrow := ownsRow_sortedI (w := w) (n := q) (os := #[]) (e := 3) (ts := fs ++ List.replicate (ds.length - fs.length) 0) (by simp; omega) hbase hb1 h1 h2 h3
    have hgr := grownBy_sortedI (w := w) (g := g) (n := q) (os := #[]) (fs ++ List.replicate (ds.length - fs.length) 0).toArray
    rw [grow_empty, ← hw] at hrow hgr
    refine ⟨_, he, ⟨some ⟨g, 0, none⟩, g, 0, cap, rfl, by omega, fun _ => rfl, fun h => (by cases h), .inl (by have := (hrow.lt g rfl).2; exact this), fun i hi => ?_⟩, hgr⟩
    have := hrow.cells (g := g) rfl i (.int .i64 (fs.getD i 0)) (by
      rw [List.getElem?_map, List.getElem?_append_left hi]
      simp [List.getD, List.getElem?_eq_getElem hi])
    rw [Addr.add_lit] at this
    exact this
end Go.Proofs.YtmjjiehnjghndaaDoor
