/-
  PROVED HERE: slices.Backward over a row of deals hands each to the loop's body, from the last on; course's lastOf (a range over it), Last and LastBefore tell who committed last, by now or when a deal began, of those that wrote an item. Old memory stays as it was.
  Conditions: the lists are short.
  PROVED HERE: package valid's two rules, as package course calls them: what a Read sees, and whether one that asks to commit is aborted. Old memory stays as it was.
  Conditions: the deal has begun; the lists are short.
  PROVED HERE: package course: how a deal begins, and whose Write a Read reads, by any rule that is handed in.
  Conditions: what the rules answer is a premise; the lists are short.
  PROVED HERE: package course: what an op that is asked for comes to, by any rules that are handed in.
  Conditions: what the rules answer is a premise; the lists are short.
-/
import Derived.Test.YtccjognnehoodahGreatMgax
import Derived.RangeFuncNested
import Derived.RangeFuncBox
import Derived.RangeFuncBound
import Derived.RangeFuncCalls
import Derived.RangeFuncLeaves
import Derived.Shelf.Abstract
import Derived.Shelf.RegionOpen
import Derived.WalkKit
import Derived.OwnWalkIn
import Derived.TacticsInMore
import Derived.LoopNIn
import Derived.LoopIn
namespace Go.Proofs.YtccjognnehoodahGreat
open Go.RowKit Go.Shelf

attribute [local go_sem] Oper.semAt_some

abbrev Sx := { t : Int // 1 ≤ t ∧ t ≤ 6 }
def sx0 : Sx := ⟨1, by omega, by omega⟩
def uptoB {α : Type} (f : Nat → α) (k : Nat) : List α := (List.range k).map f
theorem uptoB_succ {α : Type} (f : Nat → α) (k : Nat) : uptoB f (k + 1) = uptoB f k ++ [f k] := by simp [uptoB, List.range_succ]
theorem uptoB_length {α : Type} (f : Nat → α) (k : Nat) : (uptoB f k).length = k := by simp [uptoB]
def backF (zs : List Sx) (k : Nat) : Nat × Sx := (zs.length - 1 - k, zs[zs.length - 1 - k]?.getD sx0)
set_option maxRecDepth 100000 in
set_option maxHeartbeats 4000000 in
theorem back1_in (F : Fence) (n : Nat) (h7 : F.fn 133) (hro : F.round = none) (hn : 1 ≤ n) (l Bs n₀ b off cap : Nat) (ad : Option Addr) (zs : List Sx) (hreach : zs.length ≤ 1000) (hBn : Bs < n₀) (J Jx : List (Nat × Sx) → World → Prop)
    (hY : ∀ pre x W, J pre W → pre.length < zs.length → YieldAt F (n - 1) Tryz.prog l #[.int .i64 (x.1 : Int), .int .i64 x.2.1] W fun e W' =>
      (e = .returned (.bool true) ∧ J (pre ++ [x]) W' ∧ Below n₀ W W') ∨ (e = .returned (.bool false) ∧ Jx (pre ++ [x]) W'))
    (W : World) (hBs : W.cell? ⟨Bs, 0, none⟩ = some (.slice ad zs.length cap)) (hc : ∀ j, j < zs.length → ad = some ⟨b, off, none⟩ ∧ b < n₀ ∧ W.cell? ⟨b, off + j, none⟩ = some (.int .i64 (zs[j]?.getD sx0).1)) (h0 : J [] W) :
    CallsIn F n Tryz.prog 133 #[.func (.yield l) #[] #[], .pointer (some ⟨Bs, 0, none⟩)] W fun e W' => (∃ v, e = .returned v) ∧
      ((∃ ys, ys = uptoB (backF zs) zs.length ∧ J ys W') ∨ (∃ pre, (∃ k, k ≤ zs.length ∧ pre = uptoB (backF zs) k) ∧ Jx pre W')) := by
  obtain ⟨N, hN⟩ : ∃ N, zs.length = N := ⟨_, rfl⟩
  rw [hN] at hBs hreach
  have HC : Hid (∀ j, j < N → ad = some ⟨b, off, none⟩ ∧ b < n₀ ∧ W.cell? ⟨b, off + j, none⟩ = some (.int .i64 (zs[j]?.getD sx0).1)) := fun j hj => hc j (by rw [hN]; exact hj)
  have HY : Hid (∀ pre x W, J pre W → pre.length < N → YieldAt F (n - 1) Tryz.prog l #[.int .i64 (x.1 : Int), .int .i64 x.2.1] W fun e W' => (e = .returned (.bool true) ∧ J (pre ++ [x]) W' ∧ Below n₀ W W') ∨ (e = .returned (.bool false) ∧ Jx (pre ++ [x]) W')) := fun pre x W h1 h2 => hY pre x W h1 (by rw [hN]; exact h2)
  have HN := hid_q hN
  clear hc hY hN
  refine callsIn_of_wp Tryz.func133 rfl h7 ?_ hro
  simp only [Tryz.ntmps133, List.size_toArray, List.length_cons, List.length_nil, Nat.reduceAdd, Nat.reduceSub, Array.replicate_succ, Array.replicate_zero, List.push_toArray, List.append_toArray, List.nil_append, List.cons_append]
  gi_wp2
  gi_loopw [3] (fun i wr => ∃ k j : Nat, k + j = N ∧ i = .int .i64 ((j : Int) - 1) ∧ J (uptoB (backF zs) k) wr ∧ Below n₀ W wr)
    (fun i _ => (intOf i + 1).toNat)
  case atStart => exact ⟨0, N, by omega, rfl, h0, Below.refl _ _⟩
  case round =>
    obtain ⟨k, j, hk, rfl, hJs, hnx⟩ := hrel
    cases j with
    | zero =>
      gi_wp2
      go_end0
      obtain rfl : k = N := by omega
      exact ⟨⟨_, rfl⟩, .inl ⟨_, by rw [HN.out], hJs⟩⟩
    | succ j =>
      have ej : ((j + 1 : Nat) : Int) - 1 = (j : Int) := by omega
      rw [ej]
      obtain ⟨rfl, hbn, hcx⟩ := HC.out j (by omega)
      have hcx' := (hnx.cell (p := ⟨b, off + j, none⟩) hbn).trans hcx
      have hBs' := (hnx.cell (p := ⟨Bs, 0, none⟩) hBn).trans hBs
      have hF : backF zs k = (j, zs[j]?.getD sx0) := by unfold backF; rw [HN.out, show N - 1 - k = j by omega]
      obtain ⟨fn, tmps, assign, body, hy, hR⟩ := HY.out _ (j, zs[j]?.getD sx0) wr hJs (by rw [uptoB_length]; omega)
      dsimp only at hy
      have hjN : j < N := by omega
      gi_wp2
      refine hR.mono ?_
      rintro e W3 (⟨rfl, hJ3, hk3⟩ | ⟨rfl, hJx3⟩)
      · gi_wp2
        go_roundw
        case rel => exact ⟨k + 1, j, by omega, by simp, by rw [uptoB_succ, hF]; exact hJ3, hnx.trans hk3⟩
        case measure => simp [intOf]
      · gi_wp2
        refine bodyPost_ret (results_none rfl _ _ _) rfl ?_
        exact ⟨⟨_, rfl⟩, .inr ⟨_, ⟨k + 1, by have := HN.out; omega, rfl⟩, by rw [uptoB_succ, hF]; exact hJx3⟩⟩
theorem back_stops (F : Fence) (n : Nat) (h7 : F.fn 133) (hro : F.round = none) (hn : 1 ≤ n) (Bs n₀ b off cap : Nat) (ad : Option Addr) (zs : List Sx) (hreach : zs.length ≤ 1000) (w : World) (hBs : Bs < n₀) (hn₀ : n₀ ≤ w.heap.size)
    (hc : w.cell? ⟨Bs, 0, none⟩ = some (.slice ad zs.length cap)) (hI : ∀ j, j < zs.length → ad = some ⟨b, off, none⟩ ∧ b < n₀ ∧ w.cell? ⟨b, off + j, none⟩ = some (.int .i64 (zs[j]?.getD sx0).1)) :
    SeqStopsK F n Tryz.prog 133 #[.pointer (some ⟨Bs, 0, none⟩)] (fun x : Nat × Sx => #[Value.int .i64 (x.1 : Int), Value.int .i64 x.2.1]) (Below n₀) (fun ys => ys = uptoB (backF zs) zs.length)
      (fun pre => ∃ k, k ≤ zs.length ∧ pre = uptoB (backF zs) k) zs.length w := fun l J Jx W hW _ _ hY h0 =>
  back1_in F n h7 hro hn l Bs n₀ b off cap ad zs hreach hBs J Jx hY W ((hW.cell (p := ⟨Bs, 0, none⟩) (by show Bs < _; omega)).trans hc) (fun j hj => ⟨(hI j hj).1, (hI j hj).2.1, (hW.cell (p := ⟨b, off + j, none⟩) (by have := (hI j hj).2.1; show b < _; omega)).trans (hI j hj).2.2⟩) h0
set_option maxHeartbeats 1000000 in
theorem back_in (F : Fence) (n : Nat) (h5 : F.fn 105) (hro : F.round = none) (a : Option Addr) (len cap : Nat) (w : World) :
    CallsIn F n Tryz.prog 105 #[.slice a len cap] w fun e w' => e = .returned (.func (.func 133) #[] #[.pointer (some ⟨w.heap.size, 0, none⟩)]) ∧ w' = w.alloc (.cells #[.slice a len cap] 28) := by
  refine callsIn_of_wp Tryz.func105 rfl h5 ?_ hro
  simp only [Tryz.ntmps105, List.size_toArray, List.length_cons, List.length_nil, Nat.reduceAdd, Nat.reduceSub, Array.replicate_succ, Array.replicate_zero, List.push_toArray, List.append_toArray, List.nil_append, List.cons_append]
  gi_wp2
  go_ret
  exact ⟨rfl, rfl⟩
theorem back_take (zs : List Sx) {k : Nat} (hk : k < zs.length) : (zs.map (·.1)).take (zs.length - k) = (zs.map (·.1)).take (zs.length - (k + 1)) ++ [(backF zs k).2.1] := by
  have e : zs.length - k = zs.length - (k + 1) + 1 := by omega
  rw [e, List.take_succ_eq_append_getElem (by simp; omega)]
  congr 2
  unfold backF
  rw [show zs.length - 1 - k = zs.length - (k + 1) by omega, List.getElem?_eq_getElem (by omega)]
  simp
/-- Those from the end on did not write it. -/
theorem last_back (wr : Int → List Int) (item : Int) (zs : List Sx) : ∀ k, k ≤ zs.length → (∀ p ∈ uptoB (backF zs) k, inB (wr p.2.1) item = false) → lastQ wr (zs.map (·.1)) item = lastQ wr ((zs.map (·.1)).take (zs.length - k)) item := by
  intro k
  induction k with
  | zero => intro _ _; rw [Nat.sub_zero, List.take_of_length_le (by simp)]
  | succ k ih =>
    intro hk hp
    rw [uptoB_succ] at hp
    rw [ih (by omega) fun p hm => hp p (List.mem_append_left _ hm), back_take zs (by omega), lastQ_snoc, if_neg (by rw [hp _ (List.mem_append_right _ (List.mem_singleton.2 rfl))]; decide)]
theorem last_done (wr : Int → List Int) (item : Int) (zs : List Sx) (hp : ∀ p ∈ uptoB (backF zs) zs.length, inB (wr p.2.1) item = false) : lastQ wr (zs.map (·.1)) item = 0 := by
  rw [last_back wr item zs zs.length (Nat.le_refl _) hp, Nat.sub_self, List.take_zero]
  rfl
theorem last_stop (wr : Int → List Int) (item : Int) (zs : List Sx) {k : Nat} (hk : k < zs.length) (hp : ∀ p ∈ uptoB (backF zs) k, inB (wr p.2.1) item = false) (ht : inB (wr (backF zs k).2.1) item = true) : lastQ wr (zs.map (·.1)) item = (backF zs k).2.1 := by
  rw [last_back wr item zs k (by omega) hp, back_take zs hk, lastQ_snoc, if_pos ht]
theorem sx_list : ∀ l : List Int, (∀ t ∈ l, 1 ≤ t ∧ t ≤ 6) → ∃ zs : List Sx, zs.map (·.1) = l := by
  intro l
  induction l with
  | nil => intro _; exact ⟨[], rfl⟩
  | cons t r ih =>
    intro h
    obtain ⟨zs, hz⟩ := ih fun x hx => h x (List.mem_cons_of_mem _ hx)
    exact ⟨⟨t, h t List.mem_cons_self⟩ :: zs, by rw [List.map_cons, hz]⟩
set_option maxRecDepth 100000 in
set_option maxHeartbeats 8000000 in
theorem lastOf_crs {w0 w : World} {R : Nat} {S F : Value} {q : Crs} {c : CLay} (h : CrsAt w0 w R S F q c) (hq : CrsOk 1000 q) (l : List Int) (v : Value) (hI : IsInts w v l) (h6 : ∀ t ∈ l, 1 ≤ t ∧ t ≤ 6) (hl : l.length ≤ 1000) (item : Int) :
    Calls Tryz.prog 69 #[.pointer (some ⟨R, 0, none⟩), v, .int .i64 item] w fun e w' => e = .returned (.int .i64 (lastQ q.wrote l item)) ∧ Below w.heap.size w w' := by
  obtain ⟨zs, hz⟩ := sx_list l h6
  have hzl : zs.length = l.length := by rw [← hz]; simp
  obtain ⟨ad, b, off, cap, rfl, ha, -, hbB, hc⟩ := hI
  rw [← hzl]
  have HI : Hid (∀ j, j < zs.length → ad = some ⟨b, off, none⟩ ∧ b < w.heap.size ∧ w.cell? ⟨b, off + j, none⟩ = some (.int .i64 (zs[j]?.getD sx0).1)) := fun j hj => by
    have hj' : j < l.length := by omega
    refine ⟨ha (by omega), ?_, ?_⟩
    · rcases hbB with h1 | h1
      · exact h1
      · rw [h1] at hj'; simp at hj'
    · rw [hc j hj', ← hz]
      simp [List.getD, List.getElem?_eq_getElem hj]
  have HL := hid_q h
  have HQ := hid_q hq
  have HZ : Hid (l = zs.map (·.1)) := hz.symm
  have HR : Hid (zs.length ≤ 1000) := by show zs.length ≤ 1000; rw [hzl]; exact hl
  obtain ⟨N, hN⟩ : ∃ N, zs.length = N := ⟨_, rfl⟩
  rw [hN]
  have HN := hid_q hN
  clear h hq hz hzl ha hbB hc hN hl h6
  refine (callsIn_wide (n := 3)).1 ?_
  refine callsIn_of_wp_marks Tryz.func69 rfl trivial ?_ rfl
  simp only [Tryz.ntmps69, List.size_toArray, List.length_cons, List.length_nil, Nat.reduceAdd, Nat.reduceSub, Array.replicate_succ, Array.replicate_zero, List.push_toArray, List.append_toArray, List.nil_append, List.cons_append]
  gi_wp2_with (refine ⟨trivial, ?_⟩; gi_at_call 105; refine (back_in Fence.wide _ trivial rfl _ _ _ _).mono ?_; rintro e w' ⟨rfl, rfl⟩)
  obtain ⟨s, hs⟩ : ∃ s, w.heap.size = s := ⟨_, rfl⟩
  obtain ⟨W0, hW0⟩ : ∃ W0, W0 = (((w.alloc (.cells #[.pointer (some ⟨R, 0, none⟩)] 69)).alloc (.cells #[.int .i64 item] 3)).alloc (.cells #[.int .i64 0] 3)).alloc (.cells #[.slice ad N cap] 28) := ⟨_, rfl⟩
  have hB0 : Below w.heap.size w W0 := by rw [hW0]; exact ((((Below.refl _ w).alloc (Nat.le_refl _) _).alloc (by simp) _).alloc (by simp; omega) _).alloc (by simp; omega) _
  have hsz : W0.heap.size = s + 4 := by rw [hW0, ← hs]; simp
  have bx : ∀ (W : World) (T : TypeId) (v : Value), Boxed (W.alloc (.cells #[v] T)) W.heap.size T v := fun W T v => Boxed.new W T v
  have b0 : Boxed W0 s 69 (.pointer (some ⟨R, 0, none⟩)) := by rw [hW0, ← hs]; exact (((bx w _ _).alloc _).alloc _).alloc _
  have b1 : Boxed W0 (s + 1) 3 (.int .i64 item) := by
    have := ((bx (w.alloc (.cells #[.pointer (some ⟨R, 0, none⟩)] 69)) 3 (.int .i64 item)).alloc (.cells #[.int .i64 0] 3)).alloc (.cells #[.slice ad N cap] 28)
    rw [World.size_alloc, hs] at this
    rw [hW0]; exact this
  have b2 : Boxed W0 (s + 1 + 1) 3 (.int .i64 0) := by
    have := (bx ((w.alloc (.cells #[.pointer (some ⟨R, 0, none⟩)] 69)).alloc (.cells #[.int .i64 item] 3)) 3 (.int .i64 0)).alloc (.cells #[.slice ad N cap] 28)
    rw [World.size_alloc, World.size_alloc, hs] at this
    rw [hW0]; exact this
  have b3 : Boxed W0 (s + 1 + 1 + 1) 28 (.slice ad N cap) := by
    have := bx (((w.alloc (.cells #[.pointer (some ⟨R, 0, none⟩)] 69)).alloc (.cells #[.int .i64 item] 3)).alloc (.cells #[.int .i64 0] 3)) 28 (.slice ad N cap)
    rw [World.size_alloc, World.size_alloc, World.size_alloc, hs] at this
    rw [hW0]; exact this
  rw [← hW0]
  simp only [hs]
  have HI0 : Hid (∀ j, j < zs.length → ad = some ⟨b, off, none⟩ ∧ b < s + 4 ∧ W0.cell? ⟨b, off + j, none⟩ = some (.int .i64 (zs[j]?.getD sx0).1)) := fun j hj => by
    obtain ⟨u1, u2, u3⟩ := HI.out j hj
    exact ⟨u1, by omega, (hB0.cell (p := ⟨b, off + j, none⟩) u2).trans u3⟩
  clear hW0 bx
  refine wpIn_rangeFunc_ownG rfl (by omega) (gf := 133) (lb := #[.pointer (some ⟨s + 1 + 1 + 1, 0, none⟩)]) rfl trivial (enters_of Tryz.func133 (by kernel_rfl) rfl)
    (back_stops Fence.wide _ trivial rfl (by omega) (s + 1 + 1 + 1) (s + 4) b off cap ad zs HR.out W0 (by omega) (by omega) (by rw [HN.out]; exact b3.cell) HI0.out) belowK_t (belowK_b (by omega)) (Below.refl _ _) (fun _ => rfl)
    (fun pre W => ((∀ p ∈ pre, inB (q.wrote p.2.1) item = false) ∧ W.cell? ⟨s, 0, none⟩ = some (.pointer (some ⟨R, 0, none⟩)) ∧ W.cell? ⟨s + 1, 0, none⟩ = some (.int .i64 item) ∧ W.cell? ⟨s + 1 + 1, 0, none⟩ = some (.int .i64 0) ∧ W.frozen? ⟨s + 1 + 1, 0, none⟩ = false) ∧ Below s w W)
    (fun c pre W => (c = .ret ∧ ∃ ini last, pre = ini ++ [last] ∧ (∀ p ∈ ini, inB (q.wrote p.2.1) item = false) ∧ inB (q.wrote last.2.1) item = true ∧ W.cell? ⟨s + 1 + 1, 0, none⟩ = some (.int .i64 last.2.1)) ∧ Below s w W)
    (OwnFrom.and (Own.from (fun s A B row hs hg hr => ⟨hs.1, cell_kept hs.2.1 hg hr, cell_kept hs.2.2.1 hg hr, cell_kept hs.2.2.2.1 hg hr, (frozen_kept hs.2.2.2.1 hg hr).trans hs.2.2.2.2⟩) _) (ownFrom_below (by omega) (by omega)))
    (fun c => OwnFrom.and (Own.from (fun s A B row hs hg hr => by obtain ⟨hc, ini, last, e1, e2, e3, e4⟩ := hs; exact ⟨hc, ini, last, e1, e2, e3, cell_kept e4 hg hr⟩) _) (ownFrom_below (by omega) (by omega)))
    ⟨⟨by simp, b0.cell, b1.cell, b2.cell, b2.frozen⟩, hs ▸ hB0⟩
    (fun x => { tmps := #[.pointer (some ⟨R, 0, none⟩), .slice ad N cap, .int .i64 item, .pointer (some ⟨s, 0, none⟩), undef, .pointer (some ⟨s + 1, 0, none⟩), .pointer (some ⟨s + 1 + 1, 0, none⟩), undef, .int .i64 x.2.1, .slice ad N cap, .func (.func 133) #[] #[.pointer (some ⟨s + 1 + 1 + 1, 0, none⟩)], .int .i64 (x.1 : Int), .int .i64 x.2.1, undef, undef, undef, undef, undef], defers := [] }) ?assign ?body ?done ?stop
  case assign =>
    intro l x W K hK
    gi_wp2
    exact hK
  case body =>
    rintro l pre x W ⟨⟨hp, j0, j1, j2, hfr⟩, hB⟩ _
    have HCW := hid_q (wrote_crs (HL.out.below (hs ▸ hB)) x.2.2.1 x.2.2.2 item (HQ.out.lenW _))
    cases hin : inB (q.wrote x.2.1) item with
    | true =>
      rw [hin] at HCW
      gi_wp2_with (refine ⟨trivial, ?_⟩; gi_at_call 63; refine (CallsIn.inRound l (callsIn_wide.2 HCW.out)).mono ?_; rintro e w' ⟨rfl, rfl⟩)
      exact ⟨(KeepsOthers.setCell _ _ _).from _, ⟨rfl, pre, x, rfl, hp, hin, World.cell?_setCell_same' _ _ _ (by rw [j2]; rfl)⟩, hB.setCell (p := ⟨s + 1 + 1, 0, none⟩) (by show s ≤ s + 1 + 1; omega) _⟩
    | false =>
      rw [hin] at HCW
      gi_wp2_with (refine ⟨trivial, ?_⟩; gi_at_call 63; refine (CallsIn.inRound l (callsIn_wide.2 HCW.out)).mono ?_; rintro e w' ⟨rfl, rfl⟩)
      exact ⟨KeepsFrom.refl _ _, Below.refl _ _, ⟨fun p hp' => (List.mem_append.1 hp').elim (hp p) (fun e => by simp at e; subst e; exact hin), j0, j1, j2, hfr⟩, hB⟩
  case done =>
    rintro D ys W hD rfl ⟨⟨hne, j0, j1, j2, hfr⟩, hB⟩ hK
    gi_wp2
    have hK' := (KeepsOthers.setCell W ⟨s + 1 + 1, 0, none⟩ (.int .i64 0)).same D _ hK rfl
    refine ⟨by simp, .inl ⟨_, _, rfl, run_takeDeferred hK', ?_⟩⟩
    have hc5 := cell_kept (World.cell?_setCell_same' W ⟨s + 1 + 1, 0, none⟩ (.int .i64 0) (by rw [j2]; rfl)) (grownBy_putObj' _ D (.deferred none)) (fun r e => by cases e; exact ⟨_, hK', rfl⟩)
    refine ⟨.int .i64 0, ?_, ?_, hs ▸ (hB.setCell (p := ⟨s + 1 + 1, 0, none⟩) (by show s ≤ s + 1 + 1; omega) _).trans (belowK_b (w := w) (by omega) _ D _ _ (by omega) hK' rfl rfl)⟩
    · simp [results, Tryz.f69, go_sem, hc5]
    · rw [HZ.out, last_done _ _ _ hne]
  case stop =>
    rintro D c pre W hD ⟨k, hk, rfl⟩ ⟨⟨rfl, ini, last, e1, e2, e3, hcr⟩, hB⟩ hK
    gi_wp2
    refine ⟨by simp, .inl ⟨_, _, rfl, run_takeDeferred hK, ?_⟩⟩
    have hc5 := cell_kept hcr (grownBy_putObj' _ D (.deferred none)) (fun r e => by cases e; exact ⟨_, hK, rfl⟩)
    obtain ⟨k', rfl⟩ : ∃ k', k = k' + 1 := by
      cases k with
      | zero => simp [uptoB] at e1
      | succ k' => exact ⟨k', rfl⟩
    rw [uptoB_succ] at e1
    obtain ⟨rfl, e5⟩ := List.append_inj' e1 rfl
    obtain rfl : backF zs k' = last := by simpa using e5
    refine ⟨.int .i64 (backF zs k').2.1, ?_, ?_, hs ▸ hB.trans (belowK_b (w := w) (by omega) W D _ _ (by omega) hK rfl rfl)⟩
    · simp [results, Tryz.f69, go_sem, hc5]
    · rw [HZ.out, last_stop _ _ _ (by omega) e2 e3]
theorem last_crs {w0 w : World} {R : Nat} {S F : Value} {q : Crs} {c : CLay} (h : CrsAt w0 w R S F q c) (hq : CrsOk 1000 q) (item : Int) :
    Calls Tryz.prog 56 #[.pointer (some ⟨R, 0, none⟩), .int .i64 item] w fun e w' => e = .returned (.int .i64 (lastQ q.wrote q.done item)) ∧ Below w.heap.size w w' := by
  have c2 := h.c2
  obtain ⟨ad, cap, e1, -⟩ := own_slice3 h.done
  have hI := isInts_own h.done rfl
  rw [e1] at c2 hI
  have HC := hid_q (lastOf_crs h hq q.done _ hI hq.six hq.lenD item)
  obtain ⟨n, hn⟩ : ∃ n, q.done.length = n := ⟨_, rfl⟩
  rw [hn] at c2 HC
  clear h hq e1 hI hn
  go_enter Tryz.func56, Tryz.ntmps56
  go_wp2_with (go_at_call 69; refine HC.out.mono ?_; rintro e w1 ⟨rfl, hb1⟩)
  go_ret
  exact ⟨rfl, hb1⟩
set_option maxHeartbeats 4000000 in
set_option maxRecDepth 100000 in
theorem lastBefore_crs {w0 w : World} {R : Nat} {S F : Value} {q : Crs} {c : CLay} (h : CrsAt w0 w R S F q c) (hq : CrsOk 1000 q) {t : Int} (h1 : 1 ≤ t) (h6 : t ≤ 6) {n : Nat} (hn : q.began t = some n) (item : Int) :
    Calls Tryz.prog 99 #[.pointer (some ⟨R, 0, none⟩), .int .i64 t, .int .i64 item] w fun e w' => e = .returned (.int .i64 (lastQ q.wrote (q.done.take n) item)) ∧ Below w.heap.size w w' := by
  have c2 := h.c2
  have c3 := h.c3
  obtain ⟨m, hm⟩ := h.beg
  have hwf := wf_deal h1 h6
  obtain ⟨ad1, cap1, e1, -⟩ := own_slice3 h.done
  have hrow := h.done
  rw [e1] at hrow c2
  obtain ⟨ad2, cap2, hsl, hI⟩ := own_front hrow (hq.cnt t n hn)
  have hg : (begM q.began t).getD (.int .i64 0) = .int .i64 (n : Int) := by unfold begM; rw [hn]; rfl
  have hlk0 : (Instr.lookup 81 (.map (some c.B)) (.int .i64 t) false).run Tryz.prog w.drew = .ok (.int .i64 (n : Int)) w.drew := by
    have := (MapIs.drew hm).look false Tryz.underlying81 (zero_intQ _) hwf
    rw [hg] at this
    exact this
  obtain ⟨N, hN⟩ : ∃ N, q.done.length = N := ⟨_, rfl⟩
  rw [hN] at hsl c2
  have HC : Hid (∀ W, Below w.heap.size w W → Calls Tryz.prog 69 #[.pointer (some ⟨R, 0, none⟩), .slice ad2 n cap2, .int .i64 item] W fun e w' => e = .returned (.int .i64 (lastQ q.wrote (q.done.take n) item)) ∧ Below W.heap.size W w') := fun W hW =>
    lastOf_crs (h.below hW) hq (q.done.take n) _ (hI.below hW (Nat.le_refl _)) (fun t ht => hq.six t (List.mem_of_mem_take ht)) (by have := hq.lenD; rw [List.length_take]; omega) item
  have HKC : Hid (∀ W, Below w.heap.size w W → W.cell? ⟨R, 2, none⟩ = some (.slice ad1 N cap1) ∧ W.cell? ⟨R, 3, none⟩ = some (.map (some c.B))) := fun W hW => ⟨(hW.cell (p := ⟨R, 2, none⟩) h.lt).trans c2, (hW.cell (p := ⟨R, 3, none⟩) h.lt).trans c3⟩
  clear h hq hm h1 h6 hn e1 hrow hI hg hN
  go_enter Tryz.func99, Tryz.ntmps99
  go_upto_region 1 with (fail)
  go_region_held3 (fun w' => w'.cell? ⟨R, 2, none⟩ = some (.slice ad1 N cap1) ∧ w'.cell? ⟨R, 3, none⟩ = some (.map (some c.B))) (first | exact ⟨ke0, ke1⟩ | exact ⟨c2, c3⟩) (first | (go_at_call 69; refine (HC.out _ (Below.refl _ w).drew).mono ?_; rintro e w1 ⟨rfl, hb0⟩; have hb1 : Below w.heap.size w w1 := (Below.refl _ w).drew.trans hb0; clear hb0; obtain ⟨ke0, ke1⟩ := HKC.out w1 hb1))
  all_goals
    go_wp2_with fail
    go_ret
    exact ⟨rfl, hb1⟩
end Go.Proofs.YtccjognnehoodahGreat

namespace Go.Proofs.YtccjognnehoodahGreat
open Go.RowKit

/-- What a rule that tells whose Write is seen is asked. -/
def SeesC (N : Nat) (seesF : Crs → Int → Int → Int) : Prop := ∀ (w0 w : World) (R : Nat) (S F : Value) (q : Crs) (c : CLay) (t item : Int), CrsAt w0 w R S F q c → CrsOk 1000 q → 1 ≤ t → t ≤ 6 → (q.began t).isSome = true →
  Calls Tryz.prog N #[.pointer (some ⟨R, 0, none⟩), .int .i64 t, .int .i64 item] w fun e w' => e = .returned (.int .i64 (seesF q t item)) ∧ Below w.heap.size w w'
/-- What a rule that tells whether one is aborted is asked. -/
def FallC (N : Nat) (fallF : Crs → Int → Bool) : Prop := ∀ (w0 w : World) (R : Nat) (S F : Value) (q : Crs) (c : CLay) (t : Int), CrsAt w0 w R S F q c → CrsOk 1000 q → 1 ≤ t → t ≤ 6 → (q.began t).isSome = true →
  Calls Tryz.prog N #[.pointer (some ⟨R, 0, none⟩), .int .i64 t] w fun e w' => e = .returned (.bool (fallF q t)) ∧ Below w.heap.size w w'
/-- .. and of one that holds on to something that lay there before. -/
def FallK (K : World → Prop) (N : Nat) (B C : Array Value) (fallF : Crs → Int → Bool) : Prop := ∀ (w0 w : World) (R : Nat) (S F : Value) (q : Crs) (c : CLay) (t : Int), K w0 → CrsAt w0 w R S F q c → CrsOk 999 q → 1 ≤ t → t ≤ 6 → (q.began t).isSome = true →
  Calls Tryz.prog N (B ++ #[.pointer (some ⟨R, 0, none⟩), .int .i64 t] ++ C) w fun e w' => e = .returned (.bool (fallF q t)) ∧ Below w.heap.size w w'
theorem FallC.k {N : Nat} {fallF : Crs → Int → Bool} (h : FallC N fallF) : FallK (fun _ => True) N #[] #[] fallF := fun w0 w R S F q c t _ h1 h2 h3 h4 h5 => by
  rw [Array.append_empty, Array.empty_append]
  exact h w0 w R S F q c t h1 h2.more h3 h4 h5
theorem seesV_c : SeesC 27 seesV := by
  intro w0 w R S F q c t item h hq h1 h6 hb
  have HC := hid_q (last_crs h hq item)
  unfold seesV
  clear h hq h1 h6 hb
  go_enter Tryz.func27, Tryz.ntmps27
  go_wp2_with (go_at_call 56; refine HC.out.mono ?_; rintro e w1 ⟨rfl, hb1⟩)
  go_ret
  exact ⟨rfl, hb1⟩
/-- Did one write what this one read? -/
def staleB (q : Crs) (t o : Int) (x : Op3) : Bool := x.2.2 != t && inB (q.wrote o) x.2.1
set_option maxHeartbeats 4000000 in
set_option maxRecDepth 100000 in
theorem stale2_fn {w0 w : World} {R : Nat} {S F : Value} {q : Crs} {c : CLay} (h : CrsAt w0 w R S F q c) (hq : CrsOk 1000 q) (t o : Int) (x : Op3) (ho1 : 1 ≤ o) (ho6 : o ≤ 6) (P1 P2 P3 : Nat) (k1 : w.cell? ⟨P1, 0, none⟩ = some (.int .i64 t)) (k2 : w.cell? ⟨P2, 0, none⟩ = some (.pointer (some ⟨R, 0, none⟩))) (k3 : w.cell? ⟨P3, 0, none⟩ = some (.int .i64 o)) :
    Calls Tryz.prog 62 (#[seV x] ++ #[.pointer (some ⟨P1, 0, none⟩), .pointer (some ⟨P2, 0, none⟩), .pointer (some ⟨P3, 0, none⟩)]) w fun e w' => e = .returned (.bool (staleB q t o x)) ∧ Below w.heap.size w w' := by
  obtain ⟨a, i, f⟩ := x
  have HC : Hid (∀ W, Below w.heap.size w W → Calls Tryz.prog 63 #[.pointer (some ⟨R, 0, none⟩), .int .i64 o, .int .i64 i] W fun e w' => e = .returned (.bool (inB (q.wrote o) i)) ∧ w' = W) := fun W hW => wrote_crs (h.below hW) ho1 ho6 i (hq.lenW _)
  have l1 := World.block_lt_of_cell? w _ k1
  have l2 := World.block_lt_of_cell? w _ k2
  have l3 := World.block_lt_of_cell? w _ k3
  unfold seV staleB
  simp only at l1 l2 l3
  clear h hq
  cases hf : (f != t) with
  | false =>
    go_enter Tryz.func62, Tryz.ntmps62
    go_wp2_with fail
    go_ret
    exact ⟨rfl, (Below.refl _ w).alloc (Nat.le_refl _) _⟩
  | true =>
    go_enter Tryz.func62, Tryz.ntmps62
    go_wp2_with (go_at_call 63; refine (HC.out _ ((Below.refl _ w).alloc (Nat.le_refl _) _)).mono ?_; rintro e w1 ⟨rfl, hw1⟩; rw [hw1]; clear hw1)
    go_ret
    exact ⟨rfl, (Below.refl _ w).alloc (Nat.le_refl _) _⟩
theorem call_stale2 : ∀ (args : Array Value) (W : World), (callFunc 62 args).run Tryz.prog W = .ok (.enter 62 args) W := fun args W => by kernel_rfl
theorem call_stale1 : ∀ (args : Array Value) (W : World), (callFunc 60 args).run Tryz.prog W = .ok (.enter 60 args) W := fun args W => by kernel_rfl
set_option maxHeartbeats 4000000 in
set_option maxRecDepth 100000 in
theorem stale1_fn {w0 w : World} {R : Nat} {S F : Value} {q : Crs} {c : CLay} (h : CrsAt w0 w R S F q c) (hq : CrsOk 1000 q) (t o : Int) (ho1 : 1 ≤ o) (ho6 : o ≤ 6) (rd : List Op3) (v : Value) (hv : IsOps w v rd) (hrd : rd.length ≤ 1000) (P0 P1 P2 : Nat) (k0 : w.cell? ⟨P0, 0, none⟩ = some v) (k1 : w.cell? ⟨P1, 0, none⟩ = some (.int .i64 t)) (k2 : w.cell? ⟨P2, 0, none⟩ = some (.pointer (some ⟨R, 0, none⟩))) :
    Calls Tryz.prog 60 (#[.int .i64 o] ++ #[.pointer (some ⟨P0, 0, none⟩), .pointer (some ⟨P1, 0, none⟩), .pointer (some ⟨P2, 0, none⟩)]) w fun e w' => e = .returned (.bool (rd.any (staleB q t o))) ∧ Below w.heap.size w w' := by
  have l0 := World.block_lt_of_cell? w _ k0
  have l1 := World.block_lt_of_cell? w _ k1
  have l2 := World.block_lt_of_cell? w _ k2
  simp only at l0 l1 l2
  have HC : Hid (∀ W, Below w.heap.size w W → ∀ P3, W.cell? ⟨P3, 0, none⟩ = some (.int .i64 o) → Calls Tryz.prog 61 #[v, .func (.func 62) #[] #[.pointer (some ⟨P1, 0, none⟩), .pointer (some ⟨P2, 0, none⟩), .pointer (some ⟨P3, 0, none⟩)]] W fun r w' => r = .returned (.bool (rd.any (staleB q t o))) ∧ Below W.heap.size W w') := fun W hW P3 k3 => by
    refine contains_seen rd v _ _ _ W call_stale2 (hv.below hW (Nat.le_refl _)) (by omega) fun W2 hW2 e _ => ?_
    have hW3 : Below w.heap.size w W2 := hW.trans (hW2.mono hW.size)
    exact stale2_fn (h.below hW3) hq t o e ho1 ho6 P1 P2 P3 ((hW3.cell (p := ⟨P1, 0, none⟩) l1).trans k1) ((hW3.cell (p := ⟨P2, 0, none⟩) l2).trans k2) ((hW2.cell (p := ⟨P3, 0, none⟩) (World.block_lt_of_cell? W _ k3)).trans k3)
  obtain ⟨ad, b, off, cap, rfl, -⟩ := hv
  obtain ⟨n, hn⟩ : ∃ n, rd.length = n := ⟨_, rfl⟩
  rw [hn] at k0 HC
  clear h hq hrd hn
  go_enter Tryz.func60, Tryz.ntmps60
  go_wp2_with (go_at_call 61; refine (HC.out _ ((Below.refl _ w).alloc (Nat.le_refl _) _) w.heap.size (by simp)).mono ?_; rintro e w1 ⟨rfl, hb1⟩)
  go_ret
  exact ⟨rfl, ((Below.refl _ w).alloc (Nat.le_refl _) _).trans (hb1.mono (by simp))⟩
set_option maxHeartbeats 4000000 in
set_option maxRecDepth 100000 in
theorem fallV_c : FallC 28 fallV := by
  intro w0 w R S F q c t h hq h1 h6 hb
  obtain ⟨n, hn⟩ := Option.isSome_iff_exists.1 hb
  have e0 : fallV q t = (q.done.drop n).any fun o => (q.read t).any (staleB q t o) := by unfold fallV; rw [hn]; rfl
  rw [e0]
  have HR : Hid (∀ W, Below w.heap.size w W → Calls Tryz.prog 57 #[.pointer (some ⟨R, 0, none⟩), .int .i64 t] W fun e w' => ∃ v', e = .returned v' ∧ w'.ownsRow W.heap.size 47 3 v' (q.read t).length (flat (q.read t)) ∧ Below W.heap.size W w') := fun W hW => read_crs (h.below hW) h1 h6 (hq.lenR t)
  have HS : Hid (∀ W, Below w.heap.size w W → Calls Tryz.prog 59 #[.pointer (some ⟨R, 0, none⟩), .int .i64 t] W fun e w' => ∃ v', e = .returned v' ∧ IsInts w' v' (q.done.drop n) ∧ Below W.heap.size W w') := fun W hW => since_crs (h.below hW) h1 h6 hn (hq.cnt t n hn) hq.lenD
  have HC : Hid (∀ W, Below w.heap.size w W → ∀ u v P0 P1 P2, IsInts W u (q.done.drop n) → IsOps W v (q.read t) → W.cell? ⟨P0, 0, none⟩ = some v → W.cell? ⟨P1, 0, none⟩ = some (.int .i64 t) → W.cell? ⟨P2, 0, none⟩ = some (.pointer (some ⟨R, 0, none⟩)) → Calls Tryz.prog 58 #[u, .func (.func 60) #[] #[.pointer (some ⟨P0, 0, none⟩), .pointer (some ⟨P1, 0, none⟩), .pointer (some ⟨P2, 0, none⟩)]] W fun r w' => r = .returned (.bool ((q.done.drop n).any fun o => (q.read t).any (staleB q t o))) ∧ Below W.heap.size W w') := fun W hW u v P0 P1 P2 hu hv k0 k1 k2 => by
    refine contains_intC (q.done.drop n) u _ _ _ W call_stale1 hu (by have := hq.lenD; rw [List.length_drop]; omega) fun W2 hW2 e he => ?_
    have h6 := hq.six e (List.mem_of_mem_drop he)
    exact stale1_fn (h.below (hW.trans (hW2.mono hW.size))) hq t e h6.1 h6.2 (q.read t) v (hv.below hW2 (Nat.le_refl _)) (hq.lenR t) P0 P1 P2 ((hW2.cell (p := ⟨P0, 0, none⟩) (World.block_lt_of_cell? W _ k0)).trans k0) ((hW2.cell (p := ⟨P1, 0, none⟩) (World.block_lt_of_cell? W _ k1)).trans k1) ((hW2.cell (p := ⟨P2, 0, none⟩) (World.block_lt_of_cell? W _ k2)).trans k2)
  obtain ⟨N, hN⟩ : ∃ N, (q.read t).length = N := ⟨_, rfl⟩
  rw [hN] at HR
  have HN := hid_q hN
  clear h hq h1 h6 hb hn e0 hN
  go_enter Tryz.func28, Tryz.ntmps28
  obtain ⟨P, hP⟩ : ∃ P, w.heap.size = P := ⟨_, rfl⟩
  go_wp2_with fail
  obtain ⟨W, hW⟩ : ∃ W, W = (w.alloc (.cells #[.pointer (some ⟨R, 0, none⟩)] 69)).alloc (.cells #[.int .i64 t] 3) := ⟨_, rfl⟩
  rw [← hW]
  have hbW : Below w.heap.size w W := by rw [hW]; exact ((Below.refl _ w).alloc (Nat.le_refl _) _).alloc (by simp) _
  have k2 : W.cell? ⟨P, 0, none⟩ = some (.pointer (some ⟨R, 0, none⟩)) := by rw [hW, ← hP]; simp
  have k1 : W.cell? ⟨P + 1, 0, none⟩ = some (.int .i64 t) := by rw [hW, ← hP]; simp
  clear hW
  refine (HR.out W hbW).mono ?_
  rintro e w1 ⟨v1, rfl, ho1, hb1⟩
  obtain ⟨ad1, cp1, rfl, -⟩ := own_slice3 ho1
  have hops : IsOps w1 (.slice ad1 N cp1) (q.read t) := isOps_row ho1 HN.out
  have HB1 : Hid (Below w.heap.size w w1) := hbW.trans (hb1.mono hbW.size)
  have m2 := (hb1.cell (p := ⟨P, 0, none⟩) (World.block_lt_of_cell? W _ k2)).trans k2
  have m1 := (hb1.cell (p := ⟨P + 1, 0, none⟩) (World.block_lt_of_cell? W _ k1)).trans k1
  have HO := hid_q hops
  clear ho1 hb1 k1 k2 hbW hops
  have q2 := World.block_lt_of_cell? w1 _ m2
  have q1 := World.block_lt_of_cell? w1 _ m1
  simp only at q1 q2
  go_upto_region 2 with (fail)
  obtain ⟨W3, hW3⟩ : ∃ W, W = w1.alloc (.cells #[.slice ad1 N cp1] 32) := ⟨_, rfl⟩
  rw [← hW3]
  have hb3 : Below w1.heap.size w1 W3 := by rw [hW3]; exact (Below.refl _ w1).alloc (Nat.le_refl _) _
  have n0 : W3.cell? ⟨w1.heap.size, 0, none⟩ = some (.slice ad1 N cp1) := by rw [hW3]; simp
  have n2 := (hb3.cell (p := ⟨P, 0, none⟩) q2).trans m2
  have n1 := (hb3.cell (p := ⟨P + 1, 0, none⟩) q1).trans m1
  have HB3 : Hid (Below w.heap.size w W3) := HB1.out.trans (hb3.mono HB1.out.size)
  have HO3 := hid_q (HO.out.below hb3 (Nat.le_refl _))
  clear hW3 hb3 m1 m2 q1 q2
  obtain ⟨P5, hP5⟩ : ∃ P, P = w1.heap.size := ⟨_, rfl⟩
  rw [← hP5] at n0 ⊢
  clear hP5 hP
  go_wp2_with fail
  refine (HS.out W3 HB3.out).mono ?_
  rintro e w4 ⟨v4, rfl, hi4, hb4⟩
  have r0 := (hb4.cell (p := ⟨P5, 0, none⟩) (World.block_lt_of_cell? W3 _ n0)).trans n0
  have r2 := (hb4.cell (p := ⟨P, 0, none⟩) (World.block_lt_of_cell? W3 _ n2)).trans n2
  have r1 := (hb4.cell (p := ⟨P + 1, 0, none⟩) (World.block_lt_of_cell? W3 _ n1)).trans n1
  have HB4 : Hid (Below w.heap.size w w4) := HB3.out.trans (hb4.mono HB3.out.size)
  have HCC := hid_q (HC.out w4 HB4.out v4 (.slice ad1 N cp1) P5 (P + 1) P hi4 (HO3.out.below hb4 (Nat.le_refl _)) r0 r1 r2)
  clear hi4 hb4
  go_wp2_with fail
  refine HCC.out.mono ?_
  rintro e w5 ⟨rfl, hb5⟩
  go_wp2_with fail
  go_ret
  exact ⟨rfl, HB4.out.trans (hb5.mono HB4.out.size)⟩
end Go.Proofs.YtccjognnehoodahGreat

namespace Go.Proofs.YtccjognnehoodahGreat
open Go.RowKit

abbrev RuleFn (N : Nat) : Prop := ∀ (args : Array Value) (W : World), (callFunc N args).run Tryz.prog W = .ok (.enter N args) W
theorem begM_set (b : Int → Option Nat) (t : Int) (n : Nat) : begM (setF b t (some n)) = setF (begM b) t (some (.int .i64 (n : Int))) := by
  funext u
  unfold begM
  by_cases e : u = t
  · subst e; rw [setF_same, setF_same]; rfl
  · rw [setF_other _ _ e, setF_other _ _ e]
theorem begM_some (b : Int → Option Nat) (t : Int) : (begM b t).isSome = (b t).isSome := by unfold begM; cases b t <;> rfl
set_option maxHeartbeats 8000000 in
set_option maxRecDepth 100000 in
theorem begin_crs {w0 w : World} {R : Nat} {S F : Value} {q : Crs} {c : CLay} (h : CrsAt w0 w R S F q c) {t : Int} (h1 : 1 ≤ t) (h6 : t ≤ 6) :
    Calls Tryz.prog 103 #[.pointer (some ⟨R, 0, none⟩), .int .i64 t] w fun e w' => e = .returned (.tuple #[]) ∧ CrsAt w0 w' R S F (begQ q t) c ∧ Turns (fun k => k = c.B) w w' := by
  have c3 := h.c3
  have c2 := h.c2
  obtain ⟨m, hm⟩ := h.beg
  have hwf := wf_deal h1 h6
  have HM := hid_q hm
  have HL := hid_q h
  cases hb : (q.began t).isSome with
  | true =>
    have HQ : Hid (begQ q t = q) := by show begQ q t = q; unfold begQ; rw [if_pos hb]
    have HB : Hid ((begM q.began t).isSome = true) := by show (begM q.began t).isSome = true; rw [begM_some]; exact hb
    obtain ⟨u, hu⟩ : ∃ u : Nat, (begM q.began t).getD (.int .i64 0) = .int .i64 (u : Int) := by
      obtain ⟨n, hn⟩ := Option.isSome_iff_exists.1 hb
      exact ⟨n, by unfold begM; rw [hn]; rfl⟩
    have HU := hid_q hu
    clear h hm h1 h6 hb hu c2
    go_enter Tryz.func103, Tryz.ntmps103
    go_wp2_with (at_lookup; refine wp_look _ rfl (.tmp 10) (.tmp 11) 81 true rfl 3 Tryz.underlying81 (.int .i64 0) (zero_intQ _) c.B m (begM q.began) rfl HM.out t rfl hwf (.int .i64 (u : Int)) true HU.out HB.out ?_)
    go_end0
    exact ⟨rfl, by rw [HQ.out]; exact HL.out, Turns.refl _ _⟩
  | false =>
    have HQ : Hid (begQ q t = { q with began := setF q.began t (some q.done.length) }) := by show begQ q t = _; unfold begQ; rw [if_neg (by rw [hb]; decide)]
    have HB : Hid ((begM q.began t).isSome = false) := by show (begM q.began t).isSome = false; rw [begM_some]; exact hb
    have HU : Hid ((begM q.began t).getD (.int .i64 0) = .int .i64 0) := by
      show _ = _
      have : q.began t = none := by simpa using hb
      unfold begM; rw [this]; rfl
    obtain ⟨ad, cap, e1, -⟩ := own_slice3 h.done
    rw [e1] at c2
    obtain ⟨N, hN⟩ : ∃ N, q.done.length = N := ⟨_, rfl⟩
    rw [hN] at c2 HQ
    obtain ⟨X, hup, hmX, htX⟩ := (MapIs.drew hm).store (v := .int .i64 (N : Int)) Tryz.underlying81 h1 h6
    have htX' : Turns (fun k => k = c.B) w X := ⟨htX.os, htX.tape, htX.output, htX.size, htX.block⟩
    have HX : Hid (CrsAt w0 X R S F (begQ q t) c ∧ Turns (fun k => k = c.B) w X) := by
      refine ⟨?_, htX'⟩
      rw [HQ.out]
      rw [← begM_set] at hmX
      exact h.setBeg hmX htX'
    have x2 : X.cell? ⟨R, 2, none⟩ = some (.slice ad N cap) := (HX.out.2.cell (p := ⟨R, 2, none⟩) h.lt (fun e => h.apart 0 2 R (by omega) (by omega) (by decide) rfl e)).trans c2
    have x3 : X.cell? ⟨R, 3, none⟩ = some (.map (some c.B)) := (HX.out.2.cell (p := ⟨R, 3, none⟩) h.lt (fun e => h.apart 0 2 R (by omega) (by omega) (by decide) rfl e)).trans c3
    clear h hm h1 h6 hb e1 hN hmX htX htX'
    go_enter Tryz.func103, Tryz.ntmps103
    go_wp2_with (at_lookup; refine wp_look _ rfl (.tmp 10) (.tmp 11) 81 true rfl 3 Tryz.underlying81 (.int .i64 0) (zero_intQ _) c.B m (begM q.began) rfl HM.out t rfl hwf (.int .i64 0) false HU.out HB.out ?_)
    go_region_held3 (fun w' => w'.cell? ⟨R, 2, none⟩ = some (.slice ad N cap) ∧ w'.cell? ⟨R, 3, none⟩ = some (.map (some c.B))) (first | exact ⟨c2, c3⟩ | exact ⟨x2, x3⟩) (fail)
    all_goals
      go_wp2_with fail
      go_end0
      exact ⟨rfl, HX.out⟩
/-- An op in a box beside the run. -/
structure CrsBox (w : World) (P : Nat) (t a i : Int) : Prop where
  p0 : w.cell? ⟨P, 0, none⟩ = some (.int .i64 t)
  p1 : w.cell? ⟨P, 1, none⟩ = some (.int .i64 a)
  p2 : w.cell? ⟨P, 2, none⟩ = some (.int .i64 i)
theorem CrsBox.lt {w : World} {P : Nat} {t a i : Int} (h : CrsBox w P t a i) : P < w.heap.size := World.block_lt_of_cell? w _ h.p0
theorem CrsBox.turn {G : Nat → Prop} {w w1 : World} {P : Nat} {t a i : Int} (h : CrsBox w P t a i) (ht : Turns G w w1) (hP : ¬ G P) : CrsBox w1 P t a i :=
  ⟨(ht.cell (p := ⟨P, 0, none⟩) h.lt hP).trans h.p0, (ht.cell (p := ⟨P, 1, none⟩) h.lt hP).trans h.p1, (ht.cell (p := ⟨P, 2, none⟩) h.lt hP).trans h.p2⟩
theorem CrsBox.below {w w1 : World} {P : Nat} {t a i : Int} (h : CrsBox w P t a i) (hb : Below w.heap.size w w1) : CrsBox w1 P t a i := h.turn (Turns.of_below (F := fun _ => False) hb) fun hf => hf
theorem crsBox_new (w : World) (t a i : Int) (T : TypeId) : CrsBox (w.alloc (.cells #[.int .i64 t, .int .i64 a, .int .i64 i] T)) w.heap.size t a i := ⟨by simp, by simp, by simp⟩
set_option maxHeartbeats 8000000 in
set_option maxRecDepth 100000 in
theorem source_crs {NS : Nat} {seesF : Crs → Int → Int → Int} (hcall : RuleFn NS) (hS : SeesC NS seesF) {w0 w : World} {R : Nat} {F : Value} {q : Crs} {c : CLay} (h : CrsAt w0 w R (.func (.func NS) #[] #[]) F q c) (hq : CrsOk 1000 q) {t : Int} (a i : Int) (h1 : 1 ≤ t) (h6 : t ≤ 6) (hb : (q.began t).isSome = true) :
    Calls Tryz.prog 104 #[.pointer (some ⟨R, 0, none⟩), .agg #[.int .i64 t, .int .i64 a, .int .i64 i]] w fun e w' => e = .returned (.int .i64 (srcQ seesF q t i)) ∧ Below w.heap.size w w' := by
  have HL := hid_q h
  have HQ := hid_q hq
  have HS : Hid (∀ W, Below w.heap.size w W → Calls Tryz.prog NS #[.pointer (some ⟨R, 0, none⟩), .int .i64 t, .int .i64 i] W fun e w' => e = .returned (.int .i64 (seesF q t i)) ∧ Below W.heap.size W w') := fun W hW => hS w0 W R _ F q c t i (h.below hW) hq h1 h6 hb
  have HW : Hid (∀ W, Below w.heap.size w W → Calls Tryz.prog 63 #[.pointer (some ⟨R, 0, none⟩), .int .i64 t, .int .i64 i] W fun e w' => e = .returned (.bool (inB (q.wrote t) i)) ∧ w' = W) := fun W hW => wrote_crs (h.below hW) h1 h6 i (hq.lenW t)
  have HK : Hid (∀ W, Below w.heap.size w W → W.cell? ⟨R, 0, none⟩ = some (.func (.func NS) #[] #[])) := fun W hW => (h.below hW).c0
  obtain ⟨r, hr⟩ : ∃ r, srcQ seesF q t i = r := ⟨_, rfl⟩
  rw [hr]
  have HR := hid_q hr
  clear h hq hS hb h1 h6 hr
  go_enter Tryz.func104, Tryz.ntmps104
  go_upto_region 1 with (fail)
  obtain ⟨W, hW⟩ : ∃ W, W = w.alloc (.cells #[.int .i64 t, .int .i64 a, .int .i64 i] 51) := ⟨_, rfl⟩
  rw [← hW]
  have hbx : CrsBox W w.heap.size t a i := by rw [hW]; exact crsBox_new _ _ _ _ _
  have HB : Hid (Below w.heap.size w W) := by show Below _ _ _; rw [hW]; exact (Below.refl _ w).alloc (Nat.le_refl _) _
  obtain ⟨P, hP⟩ : ∃ P, P = w.heap.size := ⟨_, rfl⟩
  rw [← hP] at hbx ⊢
  obtain ⟨p0, p1, p2⟩ := hbx
  have hPW := World.block_lt_of_cell? W _ p0
  simp only at hPW
  have k0 := HK.out W HB.out
  have HWW := hid_q (HW.out W HB.out)
  have hRW := World.block_lt_of_cell? W _ k0
  simp only at hRW
  clear hW hP
  cases hin : inB (q.wrote t) i with
  | true =>
    have HIN := hid_q hin
    rw [hin] at HWW
    clear hin
    go_wp2_with fail
    refine HWW.out.mono ?_
    rintro e w1 ⟨rfl, hw1⟩
    rw [hw1]
    clear hw1
    go_wp2_with fail
    go_ret
    exact ⟨by rw [← HR.out, srcQ, if_pos HIN.out]; rfl, HB.out⟩
  | false =>
    have HIN := hid_q hin
    rw [hin] at HWW
    clear hin
    obtain ⟨B, hA1, hA2⟩ : ∃ B, B ≤ W.heap.size ∧ W.heap.size ≤ B := ⟨_, Nat.le_refl _, Nat.le_refl _⟩
    have hne : Nonempty (Later B W) := ⟨⟨W, Below.refl _ _⟩⟩
    have g0 : ∀ y : Later B W, y.W.cell? ⟨P, 0, none⟩ = some (.int .i64 t) := fun y => (y.h.cell (p := ⟨P, 0, none⟩) (by show P < B; omega)).trans p0
    have g2 : ∀ y : Later B W, y.W.cell? ⟨P, 2, none⟩ = some (.int .i64 i) := fun y => (y.h.cell (p := ⟨P, 2, none⟩) (by show P < B; omega)).trans p2
    have gR : ∀ y : Later B W, y.W.cell? ⟨R, 0, none⟩ = some (.func (.func NS) #[] #[]) := fun y => (y.h.cell (p := ⟨R, 0, none⟩) (by show R < B; omega)).trans k0
    have HCQ : Hid (∀ y : Later B W, Calls Tryz.prog NS #[.pointer (some ⟨R, 0, none⟩), .int .i64 t, .int .i64 i] y.W fun e w' => e = .returned (.int .i64 (seesF q t i)) ∧ ∃ z : Later B W, w' = z.W) := fun y => Later.at y hA1 (HS.out y.W (HB.out.trans (y.h.mono (by have := HB.out.size; omega))))
    go_wp2_with fail
    refine HWW.out.mono ?_
    rintro e w1 ⟨rfl, hw1⟩
    rw [hw1]
    clear hw1 p0 p1 p2 k0
    go_wp2_with fail
    refine region_later B (by kernel_rfl) (by kernel_rfl) ?_
    repeat (first | go_big_quiet_skip | (go_big_quiet_want; go_big_quiet_op; first | go_big_quiet_on | (refine ⟨_, fun y => HCQ.out y, ?_⟩; go_big_quiet_on)))
    refine wpQuiet_nil ?_
    intro V hV
    obtain ⟨y, rfl⟩ := hV
    have HBY : Hid (Below w.heap.size w y.W) := HB.out.trans (y.h.mono (by have := HB.out.size; omega))
    go_wp2_with fail
    go_ret
    exact ⟨by rw [← HR.out, srcQ, if_neg (by rw [HIN.out]; decide)]; rfl, HBY.out⟩
end Go.Proofs.YtccjognnehoodahGreat

namespace Go.Proofs.YtccjognnehoodahGreat
open Go.RowKit

/-- How it stands behind an op. -/
def CameTo (w0 w' : World) (R : Nat) (S F : Value) (q : Crs) : Prop := ∃ c', CrsAt w0 w' R S F q c'
theorem int_newQ (w : World) (x : Int) (t : TypeId) : ∀ j u, ([Value.int .i64 x] : List Value)[j]? = some u → (w.alloc (.cells #[.int .i64 x] t)).cell? ((⟨w.heap.size, 0, none⟩ : Addr).add j) = some u := by
  intro j u hj
  rw [Addr.add_lit]
  rcases j with _ | j
  · simpa using hj
  · simp at hj
theorem int_oneQ (x : Int) : ∀ u ∈ ([Value.int .i64 x] : List Value), u.oneCell' = true := by intro u hu; rw [List.mem_singleton.1 hu]; rfl
theorem heap_alloc_ltQ (w : World) (ob : Obj) {g : Nat} (h : g < w.heap.size) : (w.alloc ob).heap[g]? = w.heap[g]? := ((Below.refl w.heap.size w).alloc (Nat.le_refl _) ob).block g h
/-- Where an op is in its box, and its deal has begun. -/
theorem begun_crs {w0 w w1 : World} {R : Nat} {S F : Value} {q : Crs} {c : CLay} {t a i : Int} (h : CrsAt w0 w R S F q c) (ht : Turns (fun k => k = c.B) (w.alloc (.cells #[.int .i64 t, .int .i64 a, .int .i64 i] 51)) w1) : CrsBox w1 w.heap.size t a i ∧ (∀ j k, j < 19 → cpart R c j k → k ≠ w.heap.size) := by
  refine ⟨(crsBox_new w t a i _).turn ht fun e => ?_, fun j k hj hk e => ?_⟩
  · have := h.part_lt 2 c.B (by omega) rfl
    omega
  · have := h.part_lt j k hj hk
    omega
set_option maxHeartbeats 8000000 in
set_option maxRecDepth 100000 in
theorem come_abort {w0 w : World} {R : Nat} {S F : Value} {q : Crs} {c : CLay} (h : CrsAt w0 w R S F q c) {t : Int} (a i : Int) (h1 : 1 ≤ t) (h6 : t ≤ 6) (ha1 : a ≠ 1) (ha2 : a ≠ 2) (ha3 : a ≠ 3) :
    Calls Tryz.prog 67 #[.pointer (some ⟨R, 0, none⟩), .agg #[.int .i64 t, .int .i64 a, .int .i64 i]] w fun e w' => e = .returned (.tuple #[]) ∧ CameTo w0 w' R S F (begQ q t) := by
  have HL := hid_q h
  have b1 : (a == 1) = false := by simpa using ha1
  have b2 : (a == 2) = false := by simpa using ha2
  have b3 : (a == 3) = false := by simpa using ha3
  have HBG := hid_q (begin_crs (h.alloc (.cells #[.int .i64 t, .int .i64 a, .int .i64 i] 51)) h1 h6)
  clear h ha1 ha2 ha3
  go_enter Tryz.func67, Tryz.ntmps67
  go_wp2_with fail
  refine HBG.out.mono ?_
  rintro e w1 ⟨rfl, hc1, ht1⟩
  obtain ⟨hbx, -⟩ := begun_crs HL.out ht1
  obtain ⟨p0, p1, p2⟩ := hbx
  have HC1 := hid_q hc1
  clear hc1 ht1
  go_wp2_with fail
  go_end0
  exact ⟨rfl, c, HC1.out⟩
set_option maxHeartbeats 8000000 in
set_option maxRecDepth 100000 in
theorem come_commit {K : World → Prop} {NF : Nat} {BF CF : Array Value} {fallF : Crs → Int → Bool} (hcall : RuleFn NF) (hF : FallK K NF BF CF fallF) {w0 w : World} (hK0 : K w0) {R : Nat} {S : Value} {q : Crs} {c : CLay} (h : CrsAt w0 w R S (.func (.func NF) BF CF) q c) (hq : CrsOk 999 q) {t : Int} (i : Int) (h1 : 1 ≤ t) (h6 : t ≤ 6) :
    Calls Tryz.prog 67 #[.pointer (some ⟨R, 0, none⟩), .agg #[.int .i64 t, .int .i64 3, .int .i64 i]] w fun e w' => e = .returned (.tuple #[]) ∧ CameTo w0 w' R S (.func (.func NF) BF CF) (if fallF (begQ q t) t = true then begQ q t else doneQ (begQ q t) t) := by
  have HL := hid_q h
  have HQ := hid_q (hq.beg t)
  have HBG := hid_q (begin_crs (h.alloc (.cells #[.int .i64 t, .int .i64 3, .int .i64 i] 51)) h1 h6)
  have hbt : ((begQ q t).began t).isSome = true := by
    unfold begQ
    split
    · assumption
    · show (setF q.began t (some q.done.length) t).isSome = true
      rw [setF_same]; rfl
  obtain ⟨q1, hq1⟩ : ∃ q1, begQ q t = q1 := ⟨_, rfl⟩
  rw [hq1] at HBG HQ hbt ⊢
  have HF : Hid (∀ W, CrsAt w0 W R S (.func (.func NF) BF CF) q1 c → Calls Tryz.prog NF (BF ++ #[.pointer (some ⟨R, 0, none⟩), .int .i64 t] ++ CF) W fun e w' => e = .returned (.bool (fallF q1 t)) ∧ Below W.heap.size W w') := fun W hW => hF w0 W R S _ q1 c t hK0 hW HQ.out h1 h6 hbt
  obtain ⟨i0, hi, hz0, hs0, hy0⟩ := info_parts infoInt
  have HI : Hid (Tryz.prog.info? 3 = some i0 ∧ i0.zero = some (.int .i64 0) ∧ i0.size = 1 ∧ i0.bytes = 8) := ⟨hi, hz0, hs0, hy0⟩
  obtain ⟨r, hr⟩ : ∃ r, (if fallF q1 t = true then q1 else doneQ q1 t) = r := ⟨_, rfl⟩
  rw [hr]
  have HR := hid_q hr
  clear h hF hq1 hbt hi hz0 hs0 hy0 hr hq
  go_enter Tryz.func67, Tryz.ntmps67
  go_wp2_with fail
  refine HBG.out.mono ?_
  rintro e W ⟨rfl, hc1, ht1⟩
  obtain ⟨hbx, hap⟩ := begun_crs HL.out ht1
  have HAP := hid_q hap
  obtain ⟨P, hP⟩ : ∃ P, P = w.heap.size := ⟨_, rfl⟩
  rw [← hP] at hbx HAP
  have HBX := hid_q hbx
  obtain ⟨p0, p1, p2⟩ := hbx
  have HC1 := hid_q hc1
  have k1 := hc1.c1
  have hRW := hc1.lt
  have hPW := HBX.out.lt
  rw [← hP]
  clear hc1 ht1 hap hP
  obtain ⟨B, hA1, hA2⟩ : ∃ B, B ≤ W.heap.size ∧ W.heap.size ≤ B := ⟨_, Nat.le_refl _, Nat.le_refl _⟩
  have hne : Nonempty (Later B W) := ⟨⟨W, Below.refl _ _⟩⟩
  have g0 : ∀ y : Later B W, y.W.cell? ⟨P, 0, none⟩ = some (.int .i64 t) := fun y => (y.h.cell (p := ⟨P, 0, none⟩) (by show P < B; omega)).trans p0
  have gR : ∀ y : Later B W, y.W.cell? ⟨R, 1, none⟩ = some (.func (.func NF) BF CF) := fun y => (y.h.cell (p := ⟨R, 1, none⟩) (by show R < B; omega)).trans k1
  have HCQ : Hid (∀ y : Later B W, Calls Tryz.prog NF (BF ++ #[.pointer (some ⟨R, 0, none⟩), .int .i64 t] ++ CF) y.W fun e w' => e = .returned (.bool (fallF q1 t)) ∧ ∃ z : Later B W, w' = z.W) := fun y => Later.at y hA1 (HF.out y.W (HC1.out.below (y.h.mono (by omega))))
  simp only [Array.append_assoc] at HCQ
  cases hf : fallF q1 t with
  | true =>
    have HR2 : Hid (r = q1) := by show r = q1; rw [← HR.out, if_pos hf]
    rw [hf] at HCQ
    clear hf
    go_wp2_with fail
    refine region_later B (by kernel_rfl) (by kernel_rfl) ?_
    repeat (first | go_big_quiet_skip | (go_big_quiet_want; go_big_quiet_op; first | go_big_quiet_on | (refine ⟨_, fun y => HCQ.out y, ?_⟩; go_big_quiet_on)))
    refine wpQuiet_nil ?_
    intro V hV
    obtain ⟨y, rfl⟩ := hV
    have HY := hid_q (HC1.out.below (y.h.mono (by omega)))
    go_wp2_with fail
    go_end0
    exact ⟨rfl, by rw [HR2.out]; exact ⟨c, HY.out⟩⟩
  | false =>
    have HR2 : Hid (r = doneQ q1 t) := by show r = doneQ q1 t; rw [← HR.out, if_neg (by rw [hf]; decide)]
    rw [hf] at HCQ
    clear hf
    go_wp2_with fail
    refine region_later B (by kernel_rfl) (by kernel_rfl) ?_
    repeat (first | go_big_quiet_skip | (go_big_quiet_want; go_big_quiet_op; first | go_big_quiet_on | (refine ⟨_, fun y => HCQ.out y, ?_⟩; go_big_quiet_on)))
    refine wpQuiet_nil ?_
    intro V hV
    obtain ⟨y, rfl⟩ := hV
    have HY := hid_q (HC1.out.below (y.h.mono (by omega)))
    obtain ⟨q0, -, -⟩ := HBX.out.below (y.h.mono (by omega))
    obtain ⟨V, hV⟩ : ∃ V, V = y.W := ⟨_, rfl⟩
    rw [← hV] at HY q0 ⊢
    clear hV g0 gR HCQ p0 p1 p2 k1 hRW hPW hA1 hA2
    obtain ⟨ad5, c5, e5, -⟩ := own_slice3 HY.out.done
    obtain ⟨n5, hn5⟩ : ∃ n, q1.done.length = n := ⟨_, rfl⟩
    have hl5 := HQ.out.lenD
    rw [hn5] at e5 hl5
    have c2 := HY.out.c2
    rw [e5] at c2
    have hRV := HY.out.lt
    have hPV := World.block_lt_of_cell? V _ q0
    simp only at hPV
    have HSZ : Hid (w0.heap.size ≤ V.heap.size) := HY.out.old.size
    have HV : Hid (V.ownsRow w0.heap.size 3 1 (.slice ad5 n5 c5) n5 (q1.done.map (Value.int .i64))) := by show World.ownsRow _ _ _ _ _ _ _; have := HY.out.done; rw [e5, hn5] at this; exact this
    have HPT : Hid (∀ v2 w2 (ob : Obj), w2.ownsRow w0.heap.size 3 1 v2 (n5 + 1) (q1.done.map (Value.int .i64) ++ [.int .i64 t]) → (V.drew.alloc ob).grownBy w2 (Value.slice ad5 n5 c5).ownBlock → (∀ k, v2.ownBlock = some k → (Value.slice ad5 n5 c5).ownBlock = some k ∨ (V.drew.alloc ob).heap.size ≤ k) → w2.cell? ⟨R, 2, none⟩ = some (.slice ad5 n5 c5) ∧ w2.frozen? ⟨R, 2, none⟩ = false ∧ CameTo w0 (w2.setCell ⟨R, 2, none⟩ v2) R S (.func (.func NF) BF CF) (doneQ q1 t)) := fun v2 w2 ob h1 h2 h3 => by
      have htu : Turns (fun k => c.dv.ownBlock = some k) V w2 := by rw [e5]; exact turn_grown h2
      obtain ⟨u1, u2, u3⟩ := HY.out.pushDone (t := t) htu (by rw [hn5]; exact h1) fun k hk => by
        rcases apart_later h3 k hk with h4 | h4
        · exact .inl (by rw [e5]; exact h4)
        · exact .inr h4
      rw [e5] at u1
      exact ⟨u1, u2, _, u3⟩
    have hc2 : ∀ ob : Obj, (V.alloc ob).cell? ⟨R, 2, none⟩ = some (.slice ad5 n5 c5) := fun ob => by rw [World.cell?_alloc_lt _ _ ⟨R, 2, none⟩ hRV]; exact c2
    clear e5 hn5
    go_wp2_with fail
    go_region_law (refine step_append_apart rfl (.tmp 72) (.tmp 75) 28 rfl w0.heap.size 3 i0 (.int .i64 0) 1 8 Tryz.underlying28 HI.out.1 HI.out.2.1 HI.out.2.2.1 HI.out.2.2.2 rfl (by decide) (.slice ad5 n5 c5) n5 (q1.done.map (Value.int .i64)) (by simp [Act.eval]) (HV.out.alloc _) ⟨V.heap.size, 0, none⟩ 1 1 [.int .i64 t] (by simp [Act.eval]) rfl (int_newQ V t _) (int_oneQ t) (by unfold maxLen; omega) (by omega) (by have := HSZ.out; simp; omega) ?_; intro v2 w2 hown2 hgr2 hap2; obtain ⟨g0, g1, g2⟩ := HPT.out v2 w2 _ hown2 hgr2 hap2; clear hap2 hgr2; obtain ⟨ad6, c6, rfl, -⟩ := own_slice3 hown2; have HK2 := hid_q g2; clear g2 hown2)
    all_goals
      go_wp2_with fail
      go_end0
      exact ⟨rfl, by rw [HR2.out]; exact HK2.out⟩
end Go.Proofs.YtccjognnehoodahGreat
