/-
  PROVED HERE: the library's contracts of slices.Sort, Equal, Contains, Index, IndexFunc and DeleteFunc at lists of numbers, laid at this program (each function's body is held against the one that the contract was proved of).
  Conditions: none.
  PROVED HERE: slices.Clone at a list of numbers gives that list, in new memory. Old memory stays as it was.
  Conditions: the list is short.
  PROVED HERE: slices.Contains, Equal, Sort and Clone at lists of numbers, in the words of these texts: a list that lies in memory, a list that the call itself has made. Old memory stays as it was.
  Conditions: none.
  PROVED HERE: serial.weave lays rising numbers between those of an order, each as soon as it is less than the next one of these. Old memory stays as it was.
  Conditions: both lists are of at most 10 numbers.
-/
import Derived.Shelf.Sort.Plain
import Derived.Shelf.Slices.Turned
import Derived.Shelf.Slices.Equal
import Derived.Shelf.Slices.In.SortNone
import Derived.Shelf.Slices.Empties2
import Derived.Ground.SlgfProg
import Derived.Shelf.SlicesE.IndexFunc
import Derived.Shelf.SlicesE.DeleteFunc
import Derived.Test.YtccjognnehoodahGreatProg
import Derived.Test.YtccjognnehoodahGreatMgac
import Derived.OwnWalk
import Derived.Deep.Onto
import Derived.Laws.AppendOwnNone
import Derived.Lib.SliceRun
import Derived.WalkSmall
import Derived.Test.YtccjognnehoodahGreatMgal
import Derived.Sort.OwnSortedInts
namespace Go.Proofs
open Go.Shelf
def Tryz.lays189_ren : Go.Shelf.Ren := ⟨fun | 189 => 54 | 125 => 96 | 257 => 95 | 128 => 131 | 129 => 132 | 294 => 122 | 295 => 123 | 296 => 124 | 297 => 125 | 298 => 126 | 299 => 127 | 216 => 128 | 300 => 129 | 301 => 130 | 328 => 149 | 329 => 150 | 330 => 151 | 331 => 152 | 332 => 153 | 215 => 154 | 343 => 164 | n => n, fun | 28 => 28 | 3 => 3 | 46 => 151 | 0 => 0 | 51 => 183 | 53 => 185 | 4 => 4 | 183 => 177 | 182 => 176 | 131 => 132 | 5 => 5 | 9 => 9 | 218 => 195 | 222 => 199 | 228 => 207 | 229 => 208 | n => n, fun | n => n⟩
theorem Tryz.lays189 : Go.Proofs.Lays.n189 Tryz.prog Tryz.lays189_ren := {
  mixed := by kernel_rfl
  f125 := Tryz.func96.trans (congrArg some (by kernel_rfl))
  f128 := Tryz.func131.trans (congrArg some (by kernel_rfl))
  f129 := Tryz.func132.trans (congrArg some (by kernel_rfl))
  f189 := Tryz.func54.trans (congrArg some (by kernel_rfl))
  f215 := Tryz.func154.trans (congrArg some (by kernel_rfl))
  f216 := Tryz.func128.trans (congrArg some (by kernel_rfl))
  f257 := Tryz.func95.trans (congrArg some (by kernel_rfl))
  f294 := Tryz.func122.trans (congrArg some (by kernel_rfl))
  f295 := Tryz.func123.trans (congrArg some (by kernel_rfl))
  f296 := Tryz.func124.trans (congrArg some (by kernel_rfl))
  f297 := Tryz.func125.trans (congrArg some (by kernel_rfl))
  f298 := Tryz.func126.trans (congrArg some (by kernel_rfl))
  f299 := Tryz.func127.trans (congrArg some (by kernel_rfl))
  f300 := Tryz.func129.trans (congrArg some (by kernel_rfl))
  f301 := Tryz.func130.trans (congrArg some (by kernel_rfl))
  f328 := Tryz.func149.trans (congrArg some (by kernel_rfl))
  f329 := Tryz.func150.trans (congrArg some (by kernel_rfl))
  f330 := Tryz.func151.trans (congrArg some (by kernel_rfl))
  f331 := Tryz.func152.trans (congrArg some (by kernel_rfl))
  f332 := Tryz.func153.trans (congrArg some (by kernel_rfl))
  f343 := Tryz.func164.trans (congrArg some (by kernel_rfl))
  t0 := Tryz.underlying0
  a0 := Tryz.isAgg0
  z0 := Tryz.sizeOf0
  v0 := Tryz.zeroValue0
  t3 := Tryz.underlying3
  a3 := Tryz.isAgg3
  z3 := Tryz.sizeOf3
  v3 := Tryz.zeroValue3
  t4 := Tryz.underlying4
  a4 := Tryz.isAgg4
  z4 := Tryz.sizeOf4
  v4 := Tryz.zeroValue4
  t5 := Tryz.underlying5
  a5 := Tryz.isAgg5
  z5 := Tryz.sizeOf5
  v5 := Tryz.zeroValue5
  t9 := Tryz.underlying9
  a9 := Tryz.isAgg9
  z9 := Tryz.sizeOf9
  v9 := Tryz.zeroValue9
  t28 := Tryz.underlying28
  a28 := Tryz.isAgg28
  z28 := Tryz.sizeOf28
  v28 := Tryz.zeroValue28
  t46 := Tryz.underlying151
  a46 := Tryz.isAgg151
  z46 := Tryz.sizeOf151
  v46 := Tryz.zeroValue151
  t51 := Tryz.underlying183
  a51 := Tryz.isAgg183
  z51 := Tryz.sizeOf183
  v51 := Tryz.zeroValue183
  t53 := Tryz.underlying185
  a53 := Tryz.isAgg185
  z53 := Tryz.sizeOf185
  v53 := Tryz.zeroValue185
  t131 := Tryz.underlying132
  a131 := Tryz.isAgg132
  z131 := Tryz.sizeOf132
  v131 := Tryz.zeroValue132
  t182 := Tryz.underlying176
  a182 := Tryz.isAgg176
  z182 := Tryz.sizeOf176
  v182 := Tryz.zeroValue176
  t183 := Tryz.underlying177
  a183 := Tryz.isAgg177
  z183 := Tryz.sizeOf177
  v183 := Tryz.zeroValue177
  t218 := Tryz.underlying195
  a218 := Tryz.isAgg195
  z218 := Tryz.sizeOf195
  v218 := Tryz.zeroValue195
  t222 := Tryz.underlying199
  a222 := Tryz.isAgg199
  z222 := Tryz.sizeOf199
  v222 := Tryz.zeroValue199
  t228 := Tryz.underlying207
  a228 := Tryz.isAgg207
  z228 := Tryz.sizeOf207
  v228 := Tryz.zeroValue207
  t229 := Tryz.underlying208
  a229 := Tryz.isAgg208
  z229 := Tryz.sizeOf208
  v229 := Tryz.zeroValue208 }
def Tryz.lays108_ren : Go.Shelf.Ren := ⟨fun | 108 => 93 | n => n, fun | 28 => 28 | 3 => 3 | 0 => 0 | 4 => 4 | n => n, fun | n => n⟩
theorem Tryz.lays108 : Go.Proofs.Lays.n108 Tryz.prog Tryz.lays108_ren := {
  mixed := by kernel_rfl
  f108 := Tryz.func93.trans (congrArg some (by kernel_rfl))
  t0 := Tryz.underlying0
  a0 := Tryz.isAgg0
  z0 := Tryz.sizeOf0
  v0 := Tryz.zeroValue0
  t3 := Tryz.underlying3
  a3 := Tryz.isAgg3
  z3 := Tryz.sizeOf3
  v3 := Tryz.zeroValue3
  t4 := Tryz.underlying4
  a4 := Tryz.isAgg4
  z4 := Tryz.sizeOf4
  v4 := Tryz.zeroValue4
  t28 := Tryz.underlying28
  a28 := Tryz.isAgg28
  z28 := Tryz.sizeOf28
  v28 := Tryz.zeroValue28 }
def Tryz.lays107_ren : Go.Shelf.Ren := ⟨fun | 107 => 46 | 108 => 93 | n => n, fun | 28 => 28 | 3 => 3 | 4 => 4 | 0 => 0 | n => n, fun | n => n⟩
theorem Tryz.lays107 : Go.Proofs.Lays.n107 Tryz.prog Tryz.lays107_ren := {
  mixed := by kernel_rfl
  f107 := Tryz.func46.trans (congrArg some (by kernel_rfl))
  f108 := Tryz.func93.trans (congrArg some (by kernel_rfl))
  t0 := Tryz.underlying0
  a0 := Tryz.isAgg0
  z0 := Tryz.sizeOf0
  v0 := Tryz.zeroValue0
  t3 := Tryz.underlying3
  a3 := Tryz.isAgg3
  z3 := Tryz.sizeOf3
  v3 := Tryz.zeroValue3
  t4 := Tryz.underlying4
  a4 := Tryz.isAgg4
  z4 := Tryz.sizeOf4
  v4 := Tryz.zeroValue4
  t28 := Tryz.underlying28
  a28 := Tryz.isAgg28
  z28 := Tryz.sizeOf28
  v28 := Tryz.zeroValue28 }
def Tryz.lays111_ren : Go.Shelf.Ren := ⟨fun | 111 => 55 | n => n, fun | 28 => 28 | 3 => 3 | 4 => 4 | 0 => 0 | n => n, fun | n => n⟩
theorem Tryz.lays111 : Go.Proofs.Lays.n111 Tryz.prog Tryz.lays111_ren := {
  mixed := by kernel_rfl
  f111 := Tryz.func55.trans (congrArg some (by kernel_rfl))
  t0 := Tryz.underlying0
  a0 := Tryz.isAgg0
  z0 := Tryz.sizeOf0
  v0 := Tryz.zeroValue0
  t3 := Tryz.underlying3
  a3 := Tryz.isAgg3
  z3 := Tryz.sizeOf3
  v3 := Tryz.zeroValue3
  t4 := Tryz.underlying4
  a4 := Tryz.isAgg4
  z4 := Tryz.sizeOf4
  v4 := Tryz.zeroValue4
  t28 := Tryz.underlying28
  a28 := Tryz.isAgg28
  z28 := Tryz.sizeOf28
  v28 := Tryz.zeroValue28 }
def Tryz.laysSlH6_f94_ren : Go.Shelf.Ren := ⟨fun | 6 => 94 | n => n, fun | 22 => 28 | 23 => 3 | 25 => 108 | 3 => 3 | 0 => 0 | 4 => 4 | n => n, fun | n => n⟩
theorem Tryz.laysSlH6_f94 : Go.Proofs.SlLaysH.n6 Tryz.prog Tryz.laysSlH6_f94_ren := {
  mixed := by kernel_rfl
  f6 := ⟨Tryz.f94.name, by decide, Tryz.func94.trans (congrArg some (by kernel_rfl))⟩
  t0 := Tryz.underlying0
  a0 := Tryz.isAgg0
  z0 := Tryz.sizeOf0
  v0 := Tryz.zeroValue0
  t3 := Tryz.underlying3
  a3 := Tryz.isAgg3
  z3 := Tryz.sizeOf3
  v3 := Tryz.zeroValue3
  t4 := Tryz.underlying4
  a4 := Tryz.isAgg4
  z4 := Tryz.sizeOf4
  v4 := Tryz.zeroValue4
  t22 := Tryz.underlying28
  a22 := Tryz.isAgg28
  z22 := Tryz.sizeOf28
  v22 := Tryz.zeroValue28
  a23 := Tryz.isAgg3
  z23 := Tryz.sizeOf3
  t25 := Tryz.underlying108
  a25 := Tryz.isAgg108
  z25 := Tryz.sizeOf108
  v25 := Tryz.zeroValue108 }
def Tryz.laysSlH8_f58_ren : Go.Shelf.Ren := ⟨fun | 8 => 58 | 6 => 94 | n => n, fun | 22 => 28 | 23 => 3 | 25 => 108 | 4 => 4 | 3 => 3 | 0 => 0 | n => n, fun | n => n⟩
theorem Tryz.laysSlH8_f58 : Go.Proofs.SlLaysH.n8 Tryz.prog Tryz.laysSlH8_f58_ren := {
  mixed := by kernel_rfl
  f6 := ⟨Tryz.f94.name, by decide, Tryz.func94.trans (congrArg some (by kernel_rfl))⟩
  f8 := ⟨Tryz.f58.name, by decide, Tryz.func58.trans (congrArg some (by kernel_rfl))⟩
  t0 := Tryz.underlying0
  a0 := Tryz.isAgg0
  z0 := Tryz.sizeOf0
  v0 := Tryz.zeroValue0
  t3 := Tryz.underlying3
  a3 := Tryz.isAgg3
  z3 := Tryz.sizeOf3
  v3 := Tryz.zeroValue3
  t4 := Tryz.underlying4
  a4 := Tryz.isAgg4
  z4 := Tryz.sizeOf4
  v4 := Tryz.zeroValue4
  t22 := Tryz.underlying28
  a22 := Tryz.isAgg28
  z22 := Tryz.sizeOf28
  v22 := Tryz.zeroValue28
  a23 := Tryz.isAgg3
  z23 := Tryz.sizeOf3
  t25 := Tryz.underlying108
  a25 := Tryz.isAgg108
  z25 := Tryz.sizeOf108
  v25 := Tryz.zeroValue108 }
def Tryz.laysSlH10_f48_ren : Go.Shelf.Ren := ⟨fun | 10 => 48 | 6 => 94 | n => n, fun | 22 => 28 | 23 => 3 | 25 => 108 | 3 => 3 | 4 => 4 | 0 => 0 | n => n, fun | n => n⟩
theorem Tryz.laysSlH10_f48 : Go.Proofs.SlLaysH.n10 Tryz.prog Tryz.laysSlH10_f48_ren := {
  mixed := by kernel_rfl
  f6 := ⟨Tryz.f94.name, by decide, Tryz.func94.trans (congrArg some (by kernel_rfl))⟩
  f10 := ⟨Tryz.f48.name, by decide, Tryz.func48.trans (congrArg some (by kernel_rfl))⟩
  t0 := Tryz.underlying0
  a0 := Tryz.isAgg0
  z0 := Tryz.sizeOf0
  v0 := Tryz.zeroValue0
  t3 := Tryz.underlying3
  a3 := Tryz.isAgg3
  z3 := Tryz.sizeOf3
  v3 := Tryz.zeroValue3
  t4 := Tryz.underlying4
  a4 := Tryz.isAgg4
  z4 := Tryz.sizeOf4
  v4 := Tryz.zeroValue4
  t22 := Tryz.underlying28
  a22 := Tryz.isAgg28
  z22 := Tryz.sizeOf28
  v22 := Tryz.zeroValue28
  a23 := Tryz.isAgg3
  z23 := Tryz.sizeOf3
  t25 := Tryz.underlying108
  a25 := Tryz.isAgg108
  z25 := Tryz.sizeOf108
  v25 := Tryz.zeroValue108 }
end Go.Proofs

namespace Go.Proofs.YtccjognnehoodahGreat
open Go.RowKit

set_option maxHeartbeats 2000000 in
set_option maxRecDepth 100000 in
theorem clone_ints (l : List Int) (v : Value) (w : World) (hI : IsInts w v l) (hl : l.length ≤ 1000) :
    Calls Tryz.prog 53 #[v] w fun e w' => ∃ v', e = .returned v' ∧ w'.ownsRow w.heap.size 3 1 v' l.length (l.map (Value.int .i64)) ∧ Below w.heap.size w w' := by
  obtain ⟨ad, b, off, cap, rfl, ha, hn, -, hc⟩ := hI
  obtain ⟨i0, hi, hz0, hs0, hy0⟩ := info_parts infoInt
  have HI : Hid (Tryz.prog.info? 3 = some i0 ∧ i0.zero = some (.int .i64 0) ∧ i0.size = 1 ∧ i0.bytes = 8) := ⟨hi, hz0, hs0, hy0⟩
  clear hi hz0 hs0 hy0
  cases ad with
  | none =>
    obtain ⟨h0, rfl⟩ := hn rfl
    have e0 : l = [] := List.length_eq_zero_iff.1 h0
    subst e0
    clear ha hn hc
    have hq : ∀ w, (binOp .eql 28 (.slice none 0 0) (.slice none 0 0)).run Tryz.prog w = .ok (.bool true) w := fun w => Lib.run_eql_slice_nil w _ _ _ _ _ _ _ Tryz.underlying28
    go_enter Tryz.func53, Tryz.ntmps53
    go_wp2
    go_ret
    exact ⟨_, rfl, World.ownsRow_nil _ _ _ _, Below.refl _ _⟩
  | some a =>
    by_cases h0 : l = []
    · subst h0
      clear ha hn hc
      have hq : ∀ w, (binOp .eql 28 (.slice (some a) 0 cap) (.slice none 0 0)).run Tryz.prog w = .ok (.bool false) w := fun w => Lib.run_eql_slice_nil w _ _ _ _ _ _ _ Tryz.underlying28
      go_enter Tryz.func53, Tryz.ntmps53
      go_wp2_with (at_builtin; refine wpList_append_own_none rfl (.tmp 5) (.tmp 6) 28 rfl w.heap.size 3 i0 1 Tryz.underlying28 HI.out.1 (.slice (some ⟨w.heap.size, 0, none⟩) 0 0) 0 [] rfl (World.ownsRow_made w #[] 0 (Nat.le_refl _) (Nat.zero_le _) rfl) rfl ?_)
      go_ret
      exact ⟨_, rfl, World.ownsRow_made w #[] 0 (Nat.le_refl _) (Nat.zero_le _) rfl, (Below.refl _ w).alloc (Nat.le_refl _) _⟩
    · have hq : ∀ w, (binOp .eql 28 (.slice (some a) l.length cap) (.slice none 0 0)).run Tryz.prog w = .ok (.bool false) w := fun w => Lib.run_eql_slice_nil w _ _ _ _ _ _ _ Tryz.underlying28
      have ha' := ha (List.length_pos_iff.2 h0)
      injection ha' with ha'
      subst ha'
      have HS : Hid (∀ j u, (l.map (Value.int .i64))[j]? = some u → w.cell? ⟨b, off + j, none⟩ = some u) := fun j u hj => by
        rw [List.getElem?_map] at hj
        obtain ⟨x, hx, rfl⟩ := Option.map_eq_some_iff.1 hj
        have hj' := (List.getElem?_eq_some_iff.1 hx).1
        rw [hc j hj']; simp [List.getD, hx]
      clear ha hn hc
      go_enter Tryz.func53, Tryz.ntmps53
      go_wp2_with (at_builtin; refine wpList_append_own _ rfl (.tmp 5) (.tmp 6) 28 rfl w.heap.size 3 i0 (.int .i64 0) 1 8 Tryz.underlying28 HI.out.1 HI.out.2.1 HI.out.2.2.1 HI.out.2.2.2 rfl (by decide) (.slice (some ⟨w.heap.size, 0, none⟩) 0 0) 0 [] rfl (World.ownsRow_made w #[] 0 (Nat.le_refl _) (Nat.zero_le _) rfl) ⟨b, off, none⟩ l.length cap (l.map (Value.int .i64)) rfl (by simp) (fun j u hj => by rw [Addr.add_lit]; have h1 := HS.out j u hj; rw [World.cell?_alloc_lt _ _ _ (World.block_lt_of_cell? w _ h1)]; exact h1) (fun u hu => by obtain ⟨k, _, rfl⟩ := List.mem_map.1 hu; rfl) (by unfold maxLen; omega) (by omega) (by simp) ?_; intro v1 w1 hown1 hgr1 hnil1)
      go_ret
      exact ⟨_, rfl, by simpa using hown1, ((Below.refl _ w).alloc (Nat.le_refl _) _).grown hgr1 (by simp) (by intro k hk; simp [Value.ownBlock] at hk; omega)⟩
end Go.Proofs.YtccjognnehoodahGreat

namespace Go.Proofs.YtccjognnehoodahGreat
open Go.RowKit Go.Sort

theorem contains_ints (l : List Int) (v : Value) (x : Int) (w : World) (hI : IsInts w v l) (hl : l.length ≤ 1000) :
    Calls Tryz.prog 46 #[v, .int .i64 x] w fun e w' => e = .returned (.bool (inB l x)) ∧ w' = w := by
  obtain ⟨ad, b, off, cap, rfl, ha, -, -, hc⟩ := hI
  by_cases h0 : l = []
  · subst h0
    exact Any.slices_Contains_int_empty Tryz.lays107 ad cap x w
  · obtain rfl := ha (List.length_pos_iff.2 h0)
    refine (Any.slices_Contains_int Tryz.lays107 b off l.length cap l x w (Nat.le_refl _) (by omega) hc).mono ?_
    rintro e w' ⟨he, hw⟩
    rw [List.take_length] at he
    exact ⟨he, hw⟩
theorem beq_len {l m : List Int} (h : l.length ≠ m.length) : (l == m) = false := by
  rw [beq_eq_false_iff_ne]
  intro e
  exact h (by rw [e])
theorem equal_ints (l m : List Int) (u v : Value) (w : World) (hu : IsInts w u l) (hv : IsInts w v m) (hl : l.length ≤ 1000) (hm : m.length ≤ 1000) :
    Calls Tryz.prog 55 #[u, v] w fun e w' => e = .returned (.bool (l == m)) ∧ Below w.heap.size w w' := by
  obtain ⟨ad, b, off, cap, rfl, ha, -, -, hc⟩ := hu
  obtain ⟨ad2, b2, off2, cap2, rfl, ha2, -, -, hc2⟩ := hv
  by_cases hlm : l.length = m.length
  · by_cases h0 : l = []
    · subst h0
      refine (Any.slices_Equal_int_empty Tryz.lays111 ad ad2 cap m.length cap2 w (by omega)).mono ?_
      rintro e w' ⟨he, rfl⟩
      have hm0 : m = [] := List.length_eq_zero_iff.1 hlm.symm
      subst hm0
      exact ⟨he, Below.refl _ _⟩
    · have hp := List.length_pos_iff.2 h0
      obtain rfl := ha hp
      obtain rfl := ha2 (by omega)
      refine (Any.slices_Equal_int Tryz.lays111 b off l.length cap b2 off2 m.length cap2 l m w (Nat.le_refl _) (Nat.le_refl _) (by omega) (by omega) hc hc2).mono ?_
      rintro e w' ⟨he, q, rfl⟩
      rw [List.take_length, List.take_length] at he
      exact ⟨he, below_drewN (Below.refl _ _) _⟩
  · refine (Any.slices_Equal_int_lens Tryz.lays111 ad ad2 l.length cap m.length cap2 w hlm).mono ?_
    rintro e w' ⟨he, hw⟩
    exact ⟨by rw [he, beq_len hlm], by rw [hw]; exact Below.refl _ _⟩
theorem sort_own (zs : List Int) (v : Value) (base n : Nat) (w : World) (hn : zs.length = n) (hl : zs.length ≤ 1000) (h : w.ownsRow base 3 1 v n (zs.map (Value.int .i64))) :
    Calls Tryz.prog 54 #[v] w fun e w' => e = .returned (.tuple #[]) ∧ w'.ownsRow base 3 1 v n ((sortI zs).map (Value.int .i64)) ∧ w.grownBy w' v.ownBlock := by
  subst hn
  obtain ⟨h0, ⟨hv, hz⟩ | ⟨g, cap, cur, hv, hbase, hb, h1, h2, h3, h4⟩⟩ := h
  · subst hv
    refine (Any.slices_Sort_int_none Tryz.lays189 none 0 w).mono ?_
    rintro e w' ⟨he, hw⟩
    have e0 : zs = [] := List.length_eq_zero_iff.1 hz
    subst e0
    rw [hw]
    exact ⟨he, ⟨by simp [sortI], .inl ⟨rfl, rfl⟩⟩, ⟨rfl, rfl, rfl, Nat.le_refl _, fun _ _ _ => rfl⟩⟩
  · subst hv
    refine (Any.slices_Sort_int Tryz.lays189 g 0 cap zs w (holds_of_blockI hb (by simpa using h4)) (Array.getElem?_eq_some_iff.1 hb).1 (by omega)).mono ?_
    rintro e w' ⟨he, n, os, hw⟩
    rw [hw]
    exact ⟨he, ownsRow_sortedI (sortI_perm zs).length_eq hbase hb h1 h2 h3, grownBy_sortedI _⟩

end Go.Proofs.YtccjognnehoodahGreat

namespace Go.Proofs.YtccjognnehoodahGreat
open Go.RowKit

/-- A slice value that holds a list of numbers, and may be cut anywhere within its length. -/
def IsRow (w : World) (v : Value) (l : List Int) : Prop :=
  ∃ (ad : Option Addr) (b off cap : Nat), v = .slice ad l.length cap ∧ l.length ≤ cap ∧ (0 < l.length → ad = some ⟨b, off, none⟩) ∧ (ad = none → cap = 0) ∧ (b < w.heap.size ∨ l = []) ∧ ∀ i, i < l.length → w.cell? ⟨b, off + i, none⟩ = some (.int .i64 (l.getD i 0))
theorem weave_end {b : Int} {bs fr : List Int} (h : ∀ f r, fr = f :: r → ¬ f < b) : weaveL (b :: bs) fr = b :: weaveL bs fr := by
  cases fr with
  | nil => simp [weaveL]
  | cons f r => exact weave_pass (h f r rfl)
/-- How long a list of numbers is that a value holds. -/
def rowN : Value → Nat
  | .slice _ n _ => n
  | _ => 0

set_option maxHeartbeats 8000000 in
set_option maxRecDepth 100000 in
theorem weave_any (bs fr : List Int) (u v : Value) (w : World) (hu : IsInts w u bs) (hv : IsRow w v fr) (hbl : bs.length ≤ 10) (hfl : fr.length ≤ 10) :
    Calls Tryz.prog 47 #[u, v] w fun e w' => ∃ v', e = .returned v' ∧ IsInts w' v' (weaveL bs fr) ∧ Below w.heap.size w w' := by
  obtain ⟨ad, b, off, cap, rfl, ha, -, hbB, hc⟩ := hu
  have HU : Hid (∀ W, Below w.heap.size w W → ∀ k, k < bs.length → ad = some ⟨b, off, none⟩ ∧ W.cell? ⟨b, off + k, none⟩ = some (.int .i64 (bs.getD k 0))) := fun W hW k hk => by
    have hb : b < w.heap.size := by
      rcases hbB with h | h
      · exact h
      · subst h; simp at hk
    exact ⟨ha (by omega), (hW.cell (p := ⟨b, off + k, none⟩) hb).trans (hc k hk)⟩
  have HV : Hid (IsRow w v fr) := hv
  have HW : Hid (∀ out fr' k, weaveL bs fr = out ++ weaveL (bs.drop k) fr' → out.length ≤ 20) := fun out fr' k h => by
    have h1 := congrArg List.length h
    rw [weave_len, List.length_append] at h1
    omega
  obtain ⟨i0, hi, hz0, hs0, hy0⟩ := info_parts infoInt
  have HT : Hid (Tryz.prog.info? 3 = some i0 ∧ i0.zero = some (.int .i64 0) ∧ i0.size = 1 ∧ i0.bytes = 8) := ⟨hi, hz0, hs0, hy0⟩
  clear hi hz0 hs0 hy0 ha hbB hc hv
  go_enter Tryz.func47, Tryz.ntmps47
  go_wp2_with fail
  go_loopw [1, 5, 10] (fun v1 v5 v10 wr => ∃ (k : Nat) (out fr' : List Int), k ≤ bs.length ∧ v10 = .int .i64 k ∧ IsRow w v1 fr' ∧ weaveL bs fr = out ++ weaveL (bs.drop k) fr' ∧ wr.ownsRow w.heap.size 3 1 v5 out.length (out.map (Value.int .i64)) ∧ Below w.heap.size w wr) (fun _ _ v10 _ => bs.length - (intOf v10).toNat)
  case atStart => exact ⟨0, [], fr, Nat.zero_le _, rfl, HV.out, rfl, World.ownsRow_nil _ _ _ _, Below.refl _ _⟩
  case round =>
    obtain ⟨WR, hWR⟩ : ∃ W : World, W = wr := ⟨_, rfl⟩
    subst hWR
    obtain ⟨k, out, fr', hk, rfl, hrow, hwv, hown, hbel⟩ := hrel
    have HR : Hid (IsRow w u1 fr') := hrow
    have HWV : Hid (weaveL bs fr = out ++ weaveL (bs.drop k) fr') := hwv
    have HOWN : Hid (WR.ownsRow w.heap.size 3 1 u5 out.length (out.map (Value.int .i64))) := hown
    have hol := HW.out _ _ _ hwv
    clear hrow hwv hown
    by_cases hlt : k < bs.length
    · have hlt' : (k : Int) < (bs.length : Int) := by omega
      obtain ⟨hadr, c0⟩ := HU.out WR hbel k hlt
      subst hadr
      obtain ⟨t, ht⟩ : ∃ t, bs.getD k 0 = t := ⟨_, rfl⟩
      rw [ht] at c0
      have HDR : Hid (bs.drop k = t :: bs.drop (k + 1)) := by
        show bs.drop k = t :: bs.drop (k + 1)
        rw [List.drop_eq_getElem_cons hlt, ← ht]; simp [List.getD, List.getElem?_eq_getElem hlt]
      clear ht
      go_wp2_with fail
      go_loopw [1, 5] (fun v1 v5 wx => ∃ (out fr' : List Int), IsRow w v1 fr' ∧ weaveL bs fr = out ++ weaveL (bs.drop k) fr' ∧ wx.ownsRow w.heap.size 3 1 v5 out.length (out.map (Value.int .i64)) ∧ Below w.heap.size w wx) (fun v1 _ _ => rowN v1)
      case atStart => exact ⟨out, fr', HR.out, HWV.out, HOWN.out, hbel⟩
      case round =>
        clear HR HWV HOWN hol hbel c0
        obtain ⟨out, fr', hrow, hwv, hown, hbel⟩ := hrel
        have hol := HW.out _ _ _ hwv
        have HWV : Hid (weaveL bs fr = out ++ weaveL (bs.drop k) fr') := hwv
        have HOWN : Hid (wr.ownsRow w.heap.size 3 1 u5 out.length (out.map (Value.int .i64))) := hown
        have HR : Hid (IsRow w u1 fr') := hrow
        have hsz := hbel.size
        obtain ⟨n, hn⟩ : ∃ n, out.length = n := ⟨_, rfl⟩
        rw [hn] at HOWN hol
        have HN : Hid (out.length = n) := hn
        clear hwv hown hn
        obtain ⟨adf, bf, offf, capf, rfl, hcap, haf, -, hbf, hcf⟩ := hrow
        cases fr' with
        | nil =>
          have HQ : Hid (weaveL bs fr = (out ++ [t]) ++ weaveL (bs.drop (k + 1)) []) := by
            show weaveL bs fr = (out ++ [t]) ++ weaveL (bs.drop (k + 1)) []
            rw [HWV.out, HDR.out, weave_end (fun f r h => by cases h)]; simp
          clear haf hbf hcf hcap
          go_wp2_with (at_builtin; refine wpList_append_own _ rfl (.tmp 32) (.tmp 34) 28 rfl w.heap.size 3 i0 (.int .i64 0) 1 8 Tryz.underlying28 HT.out.1 HT.out.2.1 HT.out.2.2.1 HT.out.2.2.2 rfl (by decide) u5 n (out.map (Value.int .i64)) rfl (HOWN.out.alloc _) ⟨wr.heap.size, 0, none⟩ 1 1 [.int .i64 t] rfl rfl (cell_one_new _ _ _) (by simp [Value.oneCell']) (by unfold maxLen; omega) (by omega) (by simp; omega) ?_; intro v2 w2 hown2 hgr2 hnil2)
          have hB2 := (hbel.alloc hsz _).grown hgr2 (by simp; omega) (fun m hm => (HOWN.out.lt m hm).1)
          go_roundw
          case rel => exact ⟨k + 1, out ++ [t], [], by omega, by go_num, HR.out, HQ.out, by simpa [HN.out] using hown2, hB2⟩
          case measure => simp [intOf]; omega
        | cons f r =>
          obtain rfl := haf (by simp)
          have hblt : bf < w.heap.size := by
            rcases hbf with h | h
            · exact h
            · cases h
          have f0 := (hbel.cell (p := ⟨bf, offf + 0, none⟩) hblt).trans (hcf 0 (by simp))
          simp only [Nat.add_zero, List.getD_cons_zero] at f0
          have HC : Hid (∀ i, i < r.length → w.cell? ⟨bf, offf + 1 + i, none⟩ = some (.int .i64 (r.getD i 0))) := fun i hi => by
            have := hcf (i + 1) (by simpa using hi)
            rw [show offf + 1 + i = offf + (i + 1) by omega]
            simpa using this
          obtain ⟨m, hm⟩ : ∃ m, (f :: r).length = m := ⟨_, rfl⟩
          have hm1 : 1 ≤ m := by rw [← hm]; simp
          have HM : Hid (r.length + 1 = m) := by show r.length + 1 = m; rw [← hm]; rfl
          rw [hm] at hcap ⊢
          have hmp : (0 : Int) < (m : Int) := by omega
          clear hm haf hbf hcf
          by_cases hft : f < t
          · have HQ : Hid (weaveL bs fr = (out ++ [f]) ++ weaveL (bs.drop k) r) := by
              show weaveL bs fr = (out ++ [f]) ++ weaveL (bs.drop k) r
              rw [HWV.out, HDR.out, weave_take hft]; simp
            have HRR : Hid (IsRow w (.slice (if capf = 1 then some ⟨bf, offf, none⟩ else some ⟨bf, offf + 1, none⟩) (m - 1) (capf - 1)) r) := ⟨_, bf, offf + 1, capf - 1, by rw [show r.length = m - 1 by have := HM.out; omega], by have := HM.out; omega, fun h => if_neg (by have := HM.out; omega), fun h => (by split at h <;> cases h), .inl hblt, HC.out⟩
            go_wp2_with (at_builtin; refine wpList_append_own _ rfl (.tmp 24) (.tmp 28) 28 rfl w.heap.size 3 i0 (.int .i64 0) 1 8 Tryz.underlying28 HT.out.1 HT.out.2.1 HT.out.2.2.1 HT.out.2.2.2 rfl (by decide) u5 n (out.map (Value.int .i64)) rfl (HOWN.out.alloc _) ⟨wr.heap.size, 0, none⟩ 1 1 [.int .i64 f] rfl rfl (cell_one_new _ _ _) (by simp [Value.oneCell']) (by unfold maxLen; omega) (by omega) (by simp; omega) ?_; intro v2 w2 hown2 hgr2 hnil2)
            have hB2 := (hbel.alloc hsz _).grown hgr2 (by simp; omega) (fun m hm => (HOWN.out.lt m hm).1)
            go_roundw
            case rel => exact ⟨out ++ [f], r, HRR.out, HQ.out, by simpa [HN.out] using hown2, hB2⟩
            case measure => simp [rowN]; omega
          · have HQ : Hid (weaveL bs fr = (out ++ [t]) ++ weaveL (bs.drop (k + 1)) (f :: r)) := by
              show weaveL bs fr = (out ++ [t]) ++ weaveL (bs.drop (k + 1)) (f :: r)
              rw [HWV.out, HDR.out, weave_pass hft]; simp
            go_wp2_with (at_builtin; refine wpList_append_own _ rfl (.tmp 32) (.tmp 34) 28 rfl w.heap.size 3 i0 (.int .i64 0) 1 8 Tryz.underlying28 HT.out.1 HT.out.2.1 HT.out.2.2.1 HT.out.2.2.2 rfl (by decide) u5 n (out.map (Value.int .i64)) rfl (HOWN.out.alloc _) ⟨wr.heap.size, 0, none⟩ 1 1 [.int .i64 t] rfl rfl (cell_one_new _ _ _) (by simp [Value.oneCell']) (by unfold maxLen; omega) (by omega) (by simp; omega) ?_; intro v2 w2 hown2 hgr2 hnil2)
            have hB2 := (hbel.alloc hsz _).grown hgr2 (by simp; omega) (fun m hm => (HOWN.out.lt m hm).1)
            go_roundw
            case rel => exact ⟨k + 1, out ++ [t], f :: r, by omega, by go_num, by have h1 := HR.out; rw [show (f :: r).length = m by have := HM.out; simpa using this] at h1; exact h1, HQ.out, by simpa [HN.out] using hown2, hB2⟩
            case measure => simp [intOf]; omega
    · have hlt' : ¬ (k : Int) < (bs.length : Int) := by omega
      have HQ : Hid (weaveL bs fr = out ++ fr') := by
        show weaveL bs fr = out ++ fr'
        rw [HWV.out, List.drop_of_length_le (by omega)]; rfl
      have hsz := hbel.size
      have hfl' : fr'.length ≤ 20 := by
        have h1 := congrArg List.length HQ.out
        rw [weave_len, List.length_append] at h1
        omega
      obtain ⟨adf, bf, offf, capf, rfl, hcap, haf, hnf, hbf, hcf⟩ := HR.out
      obtain ⟨n, hn⟩ : ∃ n, out.length = n := ⟨_, rfl⟩
      rw [hn] at HOWN hol
      have HN : Hid (out.length = n) := hn
      clear hn HR
      cases fr' with
      | nil =>
        clear haf hbf hcf hcap
        have HF : Hid (IsInts WR u5 (weaveL bs fr)) := by
          show IsInts WR u5 (weaveL bs fr)
          rw [HQ.out, List.append_nil]
          exact isInts_own HOWN.out HN.out
        cases adf with
        | none =>
          obtain rfl := hnf rfl
          clear hnf
          go_wp2_with (at_builtin; refine wpList_append_own_none rfl (.tmp 37) (.tmp 38) 28 rfl w.heap.size 3 i0 1 Tryz.underlying28 HT.out.1 u5 n (out.map (Value.int .i64)) rfl HOWN.out rfl ?_)
          go_ret
          exact ⟨_, rfl, HF.out, hbel⟩
        | some a =>
          clear hnf
          go_wp2_with (at_builtin; refine wpList_append_own _ rfl (.tmp 37) (.tmp 38) 28 rfl w.heap.size 3 i0 (.int .i64 0) 1 8 Tryz.underlying28 HT.out.1 HT.out.2.1 HT.out.2.2.1 HT.out.2.2.2 rfl (by decide) u5 n (out.map (Value.int .i64)) rfl HOWN.out a 0 capf [] rfl rfl (fun j u hj => by simp at hj) (fun u hu => by cases hu) (by unfold maxLen; omega) (by omega) (by omega) ?_; intro v2 w2 hown2 hgr2 hnil2)
          have hB2 := hbel.grown hgr2 hsz (fun m hm => (HOWN.out.lt m hm).1)
          go_ret
          refine ⟨_, rfl, ?_, hB2⟩
          rw [HQ.out, List.append_nil]
          exact isInts_own (n := n) (by simpa using hown2) HN.out
      | cons f r =>
        obtain rfl := haf (by simp)
        have hblt : bf < w.heap.size := by
          rcases hbf with h | h
          · exact h
          · cases h
        have HS : Hid (∀ j u, ((f :: r).map (Value.int .i64))[j]? = some u → WR.cell? ⟨bf, offf + j, none⟩ = some u) := fun j u hj => by
          rw [List.getElem?_map] at hj
          obtain ⟨x, hx, rfl⟩ := Option.map_eq_some_iff.1 hj
          have hj' := (List.getElem?_eq_some_iff.1 hx).1
          rw [hbel.cell (p := ⟨bf, offf + j, none⟩) hblt, hcf j hj']
          simp [List.getD, hx]
        obtain ⟨m, hm⟩ : ∃ m, (f :: r).length = m := ⟨_, rfl⟩
        rw [hm] at hcap hfl' ⊢
        have HM : Hid ((f :: r).length = m) := hm
        clear haf hbf hcf hm hnf
        go_wp2_with (at_builtin; refine wpList_append_own _ rfl (.tmp 37) (.tmp 38) 28 rfl w.heap.size 3 i0 (.int .i64 0) 1 8 Tryz.underlying28 HT.out.1 HT.out.2.1 HT.out.2.2.1 HT.out.2.2.2 rfl (by decide) u5 n (out.map (Value.int .i64)) rfl HOWN.out ⟨bf, offf, none⟩ m capf ((f :: r).map (Value.int .i64)) rfl (by rw [List.length_map, HM.out, Nat.mul_one]) (fun j u hj => by rw [Addr.add_lit]; exact HS.out j u hj) (fun u hu => by obtain ⟨k, _, rfl⟩ := List.mem_map.1 hu; rfl) (by unfold maxLen; omega) (by omega) (by omega) ?_; intro v2 w2 hown2 hgr2 hnil2)
        have hB2 := hbel.grown hgr2 hsz (fun m hm => (HOWN.out.lt m hm).1)
        go_ret
        refine ⟨_, rfl, ?_, hB2⟩
        rw [HQ.out]
        exact isInts_own (n := n + m) (by rw [List.map_append]; exact hown2) (by rw [List.length_append, HN.out, HM.out])
end Go.Proofs.YtccjognnehoodahGreat
