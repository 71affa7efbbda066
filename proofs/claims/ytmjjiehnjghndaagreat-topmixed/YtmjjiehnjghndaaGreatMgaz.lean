/-
  PROVED HERE: slices.Clone at a list of numbers gives that list, in new memory. Old memory stays as it was.
  Conditions: the list is short.
  PROVED HERE: slices.Contains, Equal, Sort and Clone at lists of numbers, in the words of these texts: a list that lies in memory, a list that the call itself has made. Old memory stays as it was.
  Conditions: none.
-/
import Derived.Test.YtmjjiehnjghndaaGreatMgae
import Derived.OwnWalk
import Derived.Deep.Onto
import Derived.Laws.AppendOwnNone
import Derived.Lib.SliceRun
import Derived.WalkSmall
import Derived.Test.YtmjjiehnjghndaaGreatMgay
import Derived.Test.YtmjjiehnjghndaaGreatMgag
import Derived.Sort.OwnSortedInts
namespace Go.Proofs.YtmjjiehnjghndaaGreat
open Go.RowKit

set_option maxHeartbeats 2000000 in
set_option maxRecDepth 100000 in
theorem clone_ints (l : List Int) (v : Value) (w : World) (hI : IsInts w v l) (hl : l.length ≤ 1000) :
    Calls Tryz.prog 30 #[v] w fun e w' => ∃ v', e = .returned v' ∧ w'.ownsRow w.heap.size 3 1 v' l.length (l.map (Value.int .i64)) ∧ Below w.heap.size w w' := by
  obtain ⟨ad, b, off, cap, rfl, ha, hn, -, hc⟩ := hI
  obtain ⟨i0, hi, hz0, hs0, hy0⟩ := info_parts infoInt
  have HI : Hid (Tryz.prog.info? 3 = some i0 ∧ i0.zero = some (.int .i64 0) ∧ i0.size = 1 ∧ i0.bytes = 8) := ⟨hi, hz0, hs0, hy0⟩
  clear hi hz0 hs0 hy0
  cases ad with
  | none =>
    obtain ⟨h0, rfl⟩ := hn rfl
    have e0 : l = [] := List.length_eq_zero_iff.1 h0
    subst e0
    clear ha hn hc
    have hq : ∀ w, (binOp .eql 28 (.slice none 0 0) (.slice none 0 0)).run Tryz.prog w = .ok (.bool true) w := fun w => Lib.run_eql_slice_nil w _ _ _ _ _ _ _ Tryz.underlying28
    go_enter Tryz.func30, Tryz.ntmps30
    go_wp2
    go_ret
    exact ⟨_, rfl, World.ownsRow_nil _ _ _ _, Below.refl _ _⟩
  | some a =>
    by_cases h0 : l = []
    · subst h0
      clear ha hn hc
      have hq : ∀ w, (binOp .eql 28 (.slice (some a) 0 cap) (.slice none 0 0)).run Tryz.prog w = .ok (.bool false) w := fun w => Lib.run_eql_slice_nil w _ _ _ _ _ _ _ Tryz.underlying28
      go_enter Tryz.func30, Tryz.ntmps30
      go_wp2_with (at_builtin; refine wpList_append_own_none rfl (.tmp 5) (.tmp 6) 28 rfl w.heap.size 3 i0 1 Tryz.underlying28 HI.out.1 (.slice (some ⟨w.heap.size, 0, none⟩) 0 0) 0 [] rfl (World.ownsRow_made w #[] 0 (Nat.le_refl _) (Nat.zero_le _) rfl) rfl ?_)
      go_ret
      exact ⟨_, rfl, World.ownsRow_made w #[] 0 (Nat.le_refl _) (Nat.zero_le _) rfl, (Below.refl _ w).alloc (Nat.le_refl _) _⟩
    · have hq : ∀ w, (binOp .eql 28 (.slice (some a) l.length cap) (.slice none 0 0)).run Tryz.prog w = .ok (.bool false) w := fun w => Lib.run_eql_slice_nil w _ _ _ _ _ _ _ Tryz.underlying28
      have ha' := ha (List.length_pos_iff.2 h0)
      injection ha' with ha'
      subst ha'
      have HS : Hid (∀ j u, (l.map (Value.int .i64))[j]? = some u → w.cell? ⟨b, off + j, none⟩ = some u) := fun j u hj => by
        rw [List.getElem?_map] at hj
        obtain ⟨x, hx, rfl⟩ := Option.map_eq_some_iff.1 hj
        have hj' := (List.getElem?_eq_some_iff.1 hx).1
        rw [hc j hj']; simp [List.getD, hx]
      clear ha hn hc
      go_enter Tryz.func30, Tryz.ntmps30
      go_wp2_with (at_builtin; refine wpList_append_own _ rfl (.tmp 5) (.tmp 6) 28 rfl w.heap.size 3 i0 (.int .i64 0) 1 8 Tryz.underlying28 HI.out.1 HI.out.2.1 HI.out.2.2.1 HI.out.2.2.2 rfl (by decide) (.slice (some ⟨w.heap.size, 0, none⟩) 0 0) 0 [] rfl (World.ownsRow_made w #[] 0 (Nat.le_refl _) (Nat.zero_le _) rfl) ⟨b, off, none⟩ l.length cap (l.map (Value.int .i64)) rfl (by simp) (fun j u hj => by rw [Addr.add_lit]; have h1 := HS.out j u hj; rw [World.cell?_alloc_lt _ _ _ (World.block_lt_of_cell? w _ h1)]; exact h1) (fun u hu => by obtain ⟨k, _, rfl⟩ := List.mem_map.1 hu; rfl) (by unfold maxLen; omega) (by omega) (by simp) ?_; intro v1 w1 hown1 hgr1 hnil1)
      go_ret
      exact ⟨_, rfl, by simpa using hown1, ((Below.refl _ w).alloc (Nat.le_refl _) _).grown hgr1 (by simp) (by intro k hk; simp [Value.ownBlock] at hk; omega)⟩
end Go.Proofs.YtmjjiehnjghndaaGreat

namespace Go.Proofs.YtmjjiehnjghndaaGreat
open Go.RowKit Go.Sort

theorem contains_ints (l : List Int) (v : Value) (x : Int) (w : World) (hI : IsInts w v l) (hl : l.length ≤ 1000) :
    Calls Tryz.prog 24 #[v, .int .i64 x] w fun e w' => e = .returned (.bool (inB l x)) ∧ w' = w := by
  obtain ⟨ad, b, off, cap, rfl, ha, -, -, hc⟩ := hI
  by_cases h0 : l = []
  · subst h0
    exact Any.slices_Contains_int_empty Tryz.lays107 ad cap x w
  · obtain rfl := ha (List.length_pos_iff.2 h0)
    refine (Any.slices_Contains_int Tryz.lays107 b off l.length cap l x w (Nat.le_refl _) (by omega) hc).mono ?_
    rintro e w' ⟨he, hw⟩
    rw [List.take_length] at he
    exact ⟨he, hw⟩
theorem beq_len {l m : List Int} (h : l.length ≠ m.length) : (l == m) = false := by
  rw [beq_eq_false_iff_ne]
  intro e
  exact h (by rw [e])
theorem equal_ints (l m : List Int) (u v : Value) (w : World) (hu : IsInts w u l) (hv : IsInts w v m) (hl : l.length ≤ 1000) (hm : m.length ≤ 1000) :
    Calls Tryz.prog 51 #[u, v] w fun e w' => e = .returned (.bool (l == m)) ∧ Below w.heap.size w w' := by
  obtain ⟨ad, b, off, cap, rfl, ha, -, -, hc⟩ := hu
  obtain ⟨ad2, b2, off2, cap2, rfl, ha2, -, -, hc2⟩ := hv
  by_cases hlm : l.length = m.length
  · by_cases h0 : l = []
    · subst h0
      refine (Any.slices_Equal_int_empty Tryz.lays111 ad ad2 cap m.length cap2 w (by omega)).mono ?_
      rintro e w' ⟨he, rfl⟩
      have hm0 : m = [] := List.length_eq_zero_iff.1 hlm.symm
      subst hm0
      exact ⟨he, Below.refl _ _⟩
    · have hp := List.length_pos_iff.2 h0
      obtain rfl := ha hp
      obtain rfl := ha2 (by omega)
      refine (Any.slices_Equal_int Tryz.lays111 b off l.length cap b2 off2 m.length cap2 l m w (Nat.le_refl _) (Nat.le_refl _) (by omega) (by omega) hc hc2).mono ?_
      rintro e w' ⟨he, q, rfl⟩
      rw [List.take_length, List.take_length] at he
      exact ⟨he, below_drewN (Below.refl _ _) _⟩
  · refine (Any.slices_Equal_int_lens Tryz.lays111 ad ad2 l.length cap m.length cap2 w hlm).mono ?_
    rintro e w' ⟨he, hw⟩
    exact ⟨by rw [he, beq_len hlm], by rw [hw]; exact Below.refl _ _⟩
theorem sort_own (zs : List Int) (v : Value) (base n : Nat) (w : World) (hn : zs.length = n) (hl : zs.length ≤ 1000) (h : w.ownsRow base 3 1 v n (zs.map (Value.int .i64))) :
    Calls Tryz.prog 50 #[v] w fun e w' => e = .returned (.tuple #[]) ∧ w'.ownsRow base 3 1 v n ((sortI zs).map (Value.int .i64)) ∧ w.grownBy w' v.ownBlock := by
  subst hn
  obtain ⟨h0, ⟨hv, hz⟩ | ⟨g, cap, cur, hv, hbase, hb, h1, h2, h3, h4⟩⟩ := h
  · subst hv
    refine (Any.slices_Sort_int_none Tryz.lays189 none 0 w).mono ?_
    rintro e w' ⟨he, hw⟩
    have e0 : zs = [] := List.length_eq_zero_iff.1 hz
    subst e0
    rw [hw]
    exact ⟨he, ⟨by simp [sortI], .inl ⟨rfl, rfl⟩⟩, ⟨rfl, rfl, rfl, Nat.le_refl _, fun _ _ _ => rfl⟩⟩
  · subst hv
    refine (Any.slices_Sort_int Tryz.lays189 g 0 cap zs w (holds_of_blockI hb (by simpa using h4)) (Array.getElem?_eq_some_iff.1 hb).1 (by omega)).mono ?_
    rintro e w' ⟨he, n, os, hw⟩
    rw [hw]
    exact ⟨he, ownsRow_sortedI (sortI_perm zs).length_eq hbase hb h1 h2 h3, grownBy_sortedI _⟩

end Go.Proofs.YtmjjiehnjghndaaGreat
