/-
  PROVED HERE: nothing yet: what slices.Sort is asked at a row of whole numbers.
  Conditions: none.
  PROVED HERE: slices.Values over a row of whole numbers hands each to the loop's body, in order; slices.AppendSeq, slices.Collect and slices.Sorted of it: a row of the call's own, sorted. Old memory stays as it was.
  Conditions: the list is not too long; what slices.Sort does is a premise of the last (SortC).
-/
import Derived.Test.YtccjognnehoodahGreatMgac
import Derived.Test.YtccjognnehoodahGreatMgal
import Derived.Test.YtccjognnehoodahGreatMgax
import Derived.RangeFuncNested
import Derived.RangeFuncBox
import Derived.RangeFuncBound
import Derived.RangeFuncCalls
import Derived.RangeFuncLeaves
import Derived.Shelf.Abstract
import Derived.Shelf.RegionOpen
import Derived.WalkKit
import Derived.OwnWalkIn
import Derived.TacticsInMore
import Derived.LoopNIn
import Derived.LoopIn
import Derived.Maps.AppendAt
namespace Go.Proofs.YtccjognnehoodahGreat
open Go.RowKit

/-- What slices.Sort is asked at a row of numbers of one's own. -/
def SortC : Prop := ∀ (zs : List Int) (v : Value) (base n : Nat) (w : World), zs.length = n → zs.length ≤ 1000 → w.ownsRow base 3 1 v n (zs.map (Value.int .i64)) →
  Calls Tryz.prog 54 #[v] w fun e w' => e = .returned (.tuple #[]) ∧ w'.ownsRow base 3 1 v n ((sortI zs).map (Value.int .i64)) ∧ w.grownBy w' v.ownBlock
end Go.Proofs.YtccjognnehoodahGreat

namespace Go.Proofs.YtccjognnehoodahGreat
open Go.RowKit Go.Shelf

attribute [local go_sem] Oper.semAt_some

def uptoV (zs : List Int) (k : Nat) : List Int := zs.take k
theorem uptoV_succ (zs : List Int) {k : Nat} (h : k < zs.length) : uptoV zs (k + 1) = uptoV zs k ++ [zs.getD k 0] := by
  unfold uptoV
  rw [List.take_succ_eq_append_getElem h]
  simp [List.getD, List.getElem?_eq_getElem h]
theorem uptoV_length (zs : List Int) {k : Nat} (h : k ≤ zs.length) : (uptoV zs k).length = k := by unfold uptoV; rw [List.length_take]; omega
set_option maxRecDepth 100000 in
set_option maxHeartbeats 4000000 in
theorem values1_in (F : Fence) (n : Nat) (h7 : F.fn 108) (hro : F.round = none) (hn : 1 ≤ n) (l Bs n₀ b off cap : Nat) (ad : Option Addr) (zs : List Int) (hreach : zs.length ≤ 10000) (J Jx : List Int → World → Prop)
    (hY : ∀ pre x W, J pre W → pre.length < zs.length → YieldAt F (n - 1) Tryz.prog l #[.int .i64 x] W fun e W' =>
      (e = .returned (.bool true) ∧ J (pre ++ [x]) W' ∧ Below n₀ W W') ∨ (e = .returned (.bool false) ∧ Jx (pre ++ [x]) W'))
    (W : World) (hBs : W.cell? ⟨Bs, 0, none⟩ = some (.slice ad zs.length cap)) (hc : ∀ j, j < zs.length → ad = some ⟨b, off, none⟩ ∧ b < n₀ ∧ W.cell? ⟨b, off + j, none⟩ = some (.int .i64 (zs.getD j 0))) (h0 : J [] W) :
    CallsIn F n Tryz.prog 108 #[.func (.yield l) #[] #[], .pointer (some ⟨Bs, 0, none⟩)] W fun e W' => (∃ v, e = .returned v) ∧
      ((∃ ys, ys = zs ∧ J ys W') ∨ (∃ pre, (∃ k, k ≤ zs.length ∧ pre = uptoV zs k) ∧ Jx pre W')) := by
  obtain ⟨N, hN⟩ : ∃ N, zs.length = N := ⟨_, rfl⟩
  rw [hN] at hBs hreach
  have HC : Hid (∀ j, j < N → ad = some ⟨b, off, none⟩ ∧ b < n₀ ∧ W.cell? ⟨b, off + j, none⟩ = some (.int .i64 (zs.getD j 0))) := fun j hj => hc j (by rw [hN]; exact hj)
  have HY : Hid (∀ pre x W, J pre W → pre.length < N → YieldAt F (n - 1) Tryz.prog l #[.int .i64 x] W fun e W' => (e = .returned (.bool true) ∧ J (pre ++ [x]) W' ∧ Below n₀ W W') ∨ (e = .returned (.bool false) ∧ Jx (pre ++ [x]) W')) := fun pre x W h1 h2 => hY pre x W h1 (by rw [hN]; exact h2)
  have HN := hid_q hN
  clear hc hY hN
  refine callsIn_of_wp Tryz.func108 rfl h7 ?_ hro
  simp only [Tryz.ntmps108, List.size_toArray, List.length_cons, List.length_nil, Nat.reduceAdd, Nat.reduceSub, Array.replicate_succ, Array.replicate_zero, List.push_toArray, List.append_toArray, List.nil_append, List.cons_append]
  gi_wp2
  gi_loopw [7] (fun i wr => ∃ k : Nat, k ≤ N ∧ i = .int .i64 k ∧ J (uptoV zs k) wr ∧ Below n₀ W wr)
    (fun i _ => N - (intOf i).toNat)
  case atStart => exact ⟨0, Nat.zero_le _, rfl, h0, Below.refl _ _⟩
  case round =>
    obtain ⟨k, hk, rfl, hJs, hnx⟩ := hrel
    by_cases hlt : k < N
    · have hlt' : (k : Int) < (N : Int) := by omega
      obtain ⟨rfl, hbn, hcx⟩ := HC.out k hlt
      have hcx' := (hnx.cell (p := ⟨b, off + k, none⟩) hbn).trans hcx
      have HU : Hid (uptoV zs (k + 1) = uptoV zs k ++ [zs.getD k 0]) := uptoV_succ zs (by rw [HN.out]; exact hlt)
      obtain ⟨x, hx⟩ : ∃ x, zs.getD k 0 = x := ⟨_, rfl⟩
      rw [hx] at hcx hcx' HU
      obtain ⟨fn, tmps, assign, body, hy, hR⟩ := HY.out _ x wr hJs (by rw [uptoV_length zs (by rw [HN.out]; omega)]; exact hlt)
      clear hx
      gi_wp2
      refine hR.mono ?_
      rintro e W3 (⟨rfl, hJ3, hk3⟩ | ⟨rfl, hJx3⟩)
      · gi_wp2
        go_roundw
        case rel => exact ⟨k + 1, by omega, by simp, by rw [HU.out]; exact hJ3, hnx.trans hk3⟩
        case measure => simp [intOf]; omega
      · gi_wp2
        refine bodyPost_ret (results_none rfl _ _ _) rfl ?_
        exact ⟨⟨_, rfl⟩, .inr ⟨_, ⟨k + 1, by have := HN.out; omega, rfl⟩, by rw [HU.out]; exact hJx3⟩⟩
    · have hlt' : ¬ (k : Int) < (N : Int) := by omega
      obtain rfl : k = N := by omega
      gi_wp2
      go_end0
      have hal : uptoV zs k = zs := by unfold uptoV; rw [List.take_of_length_le (by have := HN.out; omega)]
      rw [hal] at hJs
      exact ⟨⟨_, rfl⟩, .inl hJs⟩
theorem values_stops (F : Fence) (n : Nat) (h7 : F.fn 108) (hro : F.round = none) (hn : 1 ≤ n) (Bs n₀ b off cap : Nat) (ad : Option Addr) (zs : List Int) (hreach : zs.length ≤ 10000) (w : World) (hBs : Bs < w.heap.size) (hn₀ : n₀ ≤ w.heap.size)
    (hc : w.cell? ⟨Bs, 0, none⟩ = some (.slice ad zs.length cap)) (hI : ∀ j, j < zs.length → ad = some ⟨b, off, none⟩ ∧ b < n₀ ∧ w.cell? ⟨b, off + j, none⟩ = some (.int .i64 (zs.getD j 0))) :
    SeqStopsK F n Tryz.prog 108 #[.pointer (some ⟨Bs, 0, none⟩)] (fun x : Int => #[Value.int .i64 x]) (Below n₀) (fun ys => ys = zs)
      (fun pre => ∃ k, k ≤ zs.length ∧ pre = uptoV zs k) zs.length w := fun l J Jx W hW _ _ hY h0 =>
  values1_in F n h7 hro hn l Bs n₀ b off cap ad zs hreach J Jx hY W ((hW.cell (p := ⟨Bs, 0, none⟩) hBs).trans hc) (fun j hj => ⟨(hI j hj).1, (hI j hj).2.1, (hW.cell (p := ⟨b, off + j, none⟩) (by have := (hI j hj).2.1; show b < _; omega)).trans (hI j hj).2.2⟩) h0
set_option maxHeartbeats 1000000 in
theorem values_fn (a : Option Addr) (len cap : Nat) (w : World) :
    Calls Tryz.prog 74 #[.slice a len cap] w fun e w' => e = .returned (.func (.func 108) #[] #[.pointer (some ⟨w.heap.size, 0, none⟩)]) ∧ w' = w.alloc (.cells #[.slice a len cap] 28) := by
  go_enter Tryz.func74, Tryz.ntmps74
  go_wp2_with fail
  go_ret
  exact ⟨rfl, rfl⟩
set_option maxRecDepth 100000 in
set_option maxHeartbeats 4000000 in
theorem appendSeq_in (zs : List Int) (Bs b off cap : Nat) (ad : Option Addr) (hlen : zs.length ≤ 10000) (w : World) (hBs : Bs < w.heap.size) (hc : w.cell? ⟨Bs, 0, none⟩ = some (.slice ad zs.length cap)) (hI : ∀ j, j < zs.length → ad = some ⟨b, off, none⟩ ∧ b < w.heap.size ∧ w.cell? ⟨b, off + j, none⟩ = some (.int .i64 (zs.getD j 0))) :
    Calls Tryz.prog 134 #[.slice none 0 0, .func (.func 108) #[] #[.pointer (some ⟨Bs, 0, none⟩)]] w fun e W' => ∃ v, e = .returned v ∧ W'.ownsRow w.heap.size 3 1 v zs.length (zs.map (Value.int .i64)) ∧ Below w.heap.size w W' := by
  obtain ⟨i0, hi, hz0, hz1, hz2⟩ := info_parts infoInt
  refine (callsIn_wide (n := 4)).1 ?_
  refine callsIn_of_wp_marks Tryz.func134 rfl trivial ?_ rfl
  simp only [Tryz.ntmps134, List.size_toArray, List.length_cons, List.length_nil, Nat.reduceAdd, Nat.reduceSub, Array.replicate_succ, Array.replicate_zero, List.push_toArray, List.append_toArray, List.nil_append, List.cons_append]
  gi_wp2
  have bO := Boxed.new w 28 (.slice none 0 0)
  have hB0 : Below w.heap.size w (w.alloc (.cells #[.slice none 0 0] 28)) := (Below.refl _ w).alloc (Nat.le_refl _) _
  refine wpIn_rangeFunc_ownG rfl (by omega) (gf := 108) (lb := #[.pointer (some ⟨Bs, 0, none⟩)]) rfl trivial (enters_of Tryz.func108 (by kernel_rfl) rfl)
    (values_stops Fence.wide _ trivial rfl (by omega) Bs w.heap.size b off cap ad zs hlen _ (by simp; omega) (by simp) ((hB0.cell (p := ⟨Bs, 0, none⟩) hBs).trans hc) (fun j hj => ⟨(hI j hj).1, (hI j hj).2.1, (hB0.cell (p := ⟨b, off + j, none⟩) (hI j hj).2.1).trans (hI j hj).2.2⟩)) belowK_t (belowK_b (by simp)) (Below.refl _ _) (fun _ => rfl)
    (fun pre W => (∃ v, Boxed W w.heap.size 28 v ∧ W.ownsRow w.heap.size 3 1 v pre.length (pre.map (Value.int .i64)) ∧ True) ∧ Below w.heap.size w W)
    (fun _ _ _ => False)
    (OwnFrom.and (Own.from (holdsRow_own w.heap.size w.heap.size 28 3 1 (fun pre : List Int => pre.length) (fun pre => pre.map (Value.int .i64)) (fun _ _ => True)) _) (ownFrom_below (Nat.le_refl _) (by simp)))
    (fun _ _ _ _ _ hs _ _ => hs)
    ⟨⟨_, bO, World.ownsRow_nil _ _ _ _, trivial⟩, hB0⟩
    (fun x => { tmps := #[.slice none 0 0, .func (.func 108) #[] #[.pointer (some ⟨Bs, 0, none⟩)], .pointer (some ⟨w.heap.size, 0, none⟩), undef, .slice none 0 0, .int .i64 x, .func (.func 108) #[] #[.pointer (some ⟨Bs, 0, none⟩)], .int .i64 x, undef, undef, undef, undef, undef], defers := [] }) ?assign ?body ?done ?stop
  case assign =>
    intro l x W K hK
    gi_wp2
    exact hK
  case body =>
    rintro l pre x W ⟨⟨v, hv, hrow, _⟩, hB⟩ hlt
    have hc := hv.cell
    gi_wp2_with (gi_at_builtin; refine wpListIn_append_own _ rfl _ _ 28 rfl w.heap.size 3 i0 (.int .i64 0) 1 8 Tryz.underlying28 hi hz0 hz1 hz2 rfl (by decide) _ _ _ rfl (hrow.alloc _) ⟨W.heap.size, 0, none⟩ 1 1 [.int .i64 x] rfl rfl (cell_one_new _ _ _) (by simp [Value.oneCell']) (by unfold maxLen; omega) (by omega) (by have := hB.size; simp; omega) ?_; intro v' w1 hown' hgrow _; obtain ⟨g', cap', rfl⟩ := ownsRow_succ hown'; obtain ⟨hv1, hv2, hr2, hk2, hb2⟩ := hv.appended (by decide) hrow hB.size (Nat.le_refl _) hown' hgrow; have hc1 := hv1.cell; have hf1 := hv1.frozen)
    exact ⟨hk2.from _, hb2, ⟨_, hv2, by simpa using hr2, trivial⟩, hB.trans hb2⟩
  case done =>
    rintro D ys W hD rfl ⟨⟨v, hv, hrow, _⟩, hB⟩ hK
    have hc := hv.cell
    gi_wp2
    refine ⟨by simp, .inl ⟨_, _, rfl, run_takeDeferred hK, ?_⟩⟩
    exact ⟨_, results_tmp rfl _ _ _, v, rfl, ownsRow_putObj hrow _ hK rfl, hB.trans (belowK_b (w := w) (Nat.le_refl _) W D _ _ (by simp at hD; omega) hK rfl rfl)⟩
  case stop =>
    rintro D c pre W _ _ h _
    exact h.elim
set_option maxRecDepth 100000 in
set_option maxHeartbeats 4000000 in
theorem sorted_fn (hSort : SortC) (zs : List Int) (ad : Option Addr) (N cap : Nat) (w : World) (hI : IsInts w (.slice ad N cap) zs) (hN : zs.length = N) (hlen : zs.length ≤ 1000) :
    Calls Tryz.prog 73 #[.func (.func 108) #[] #[.pointer (some ⟨w.heap.size, 0, none⟩)]] (w.alloc (.cells #[.slice ad N cap] 28)) fun e w' => ∃ v, e = .returned v ∧ w'.ownsRow w.heap.size 3 1 v N ((sortI zs).map (Value.int .i64)) ∧ Below w.heap.size w w' := by
  obtain ⟨W0, hW0⟩ : ∃ W, W = w.alloc (.cells #[.slice ad N cap] 28) := ⟨_, rfl⟩
  have hb0 : Below w.heap.size w W0 := by rw [hW0]; exact (Below.refl _ w).alloc (Nat.le_refl _) _
  have kc : W0.cell? ⟨w.heap.size, 0, none⟩ = some (.slice ad zs.length cap) := by rw [hW0, hN]; simp
  obtain ⟨ad2, b, off, cap2, e1, ha, -, hbB, hcs⟩ := hI
  injection e1 with e2 e3 e4
  have HAS : Hid (Calls Tryz.prog 134 #[.slice none 0 0, .func (.func 108) #[] #[.pointer (some ⟨w.heap.size, 0, none⟩)]] W0 fun e W' => ∃ v, e = .returned v ∧ W'.ownsRow W0.heap.size 3 1 v zs.length (zs.map (Value.int .i64)) ∧ Below W0.heap.size W0 W') :=
    appendSeq_in zs w.heap.size b off cap ad (by omega) W0 (World.block_lt_of_cell? W0 _ kc) kc fun j hj => by
      have hb : b < w.heap.size := by
        rcases hbB with h | h
        · exact h
        · rw [h] at hj; simp at hj
      exact ⟨by rw [e2]; exact ha (by omega), Nat.lt_of_lt_of_le hb hb0.size, (hb0.cell (p := ⟨b, off + j, none⟩) hb).trans (hcs j hj)⟩
  rw [hN] at HAS
  rw [← hW0]
  obtain ⟨P, hP⟩ : ∃ P, w.heap.size = P := ⟨_, rfl⟩
  rw [hP] at HAS ⊢
  have HCO : Hid (Calls Tryz.prog 107 #[.func (.func 108) #[] #[.pointer (some ⟨P, 0, none⟩)]] W0 fun e W' => ∃ v, e = .returned v ∧ W'.ownsRow W0.heap.size 3 1 v N (zs.map (Value.int .i64)) ∧ Below W0.heap.size W0 W') := by
    show Calls _ _ _ _ _
    clear hb0 hW0 kc ha hbB hcs hP e2 e3 e4 hN hlen
    go_enter Tryz.func107, Tryz.ntmps107
    go_wp2_with fail
    refine HAS.out.mono ?_
    rintro e w1 ⟨v1, rfl, ho1, hb1⟩
    have HO1 := hid_q ho1
    obtain ⟨ad1, c1, rfl, -⟩ := own_slice3 ho1
    clear ho1
    go_wp2_with fail
    go_ret
    exact ⟨_, rfl, HO1.out, hb1⟩
  have HB0 := hid_q hb0
  have HSO := hid_q hSort
  have HP := hid_q hP
  have HN := hid_q hN
  have HL := hid_q hlen
  clear hb0 hW0 kc ha hbB hcs hP HAS hSort hN hlen e2 e3 e4
  go_enter Tryz.func73, Tryz.ntmps73
  go_wp2_with fail
  refine HCO.out.mono ?_
  rintro e w1 ⟨v1, rfl, ho1, hb1⟩
  have HO1 := hid_q ho1
  have HB1 := hid_q hb1
  obtain ⟨ad1, c1, rfl, -⟩ := own_slice3 ho1
  have HS1 := hid_q (HSO.out zs _ _ N w1 HN.out HL.out ho1)
  clear ho1 hb1
  go_wp2_with fail
  refine HS1.out.mono ?_
  rintro e w2 ⟨rfl, ho2, hg2⟩
  have HO2 := hid_q ho2
  have HB2 : Hid (Below W0.heap.size W0 w2) := HB1.out.grown hg2 HB1.out.size fun k hk => (HO1.out.lt k hk).1
  clear ho2 hg2
  go_wp2_with fail
  go_ret
  exact ⟨_, rfl, own_less HO2.out (by rw [← HP.out]; exact HB0.out.size), by rw [← HP.out]; exact HB0.out.trans (HB2.out.mono HB0.out.size)⟩
end Go.Proofs.YtccjognnehoodahGreat
