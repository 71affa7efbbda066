/-
  PROVED HERE: what a run of package course (as it lies in memory) answers to those that ask it: whether a deal wrote an item, what it read and wrote, who committed, who did since it began. Old memory stays as it was.
  Conditions: the deal's number is 1 to 6; the lists are short.
  PROVED HERE: slices.Backward over a row of deals hands each to the loop's body, from the last on; course's lastOf (a range over it), Last and LastBefore tell who committed last, by now or when a deal began, of those that wrote an item. Old memory stays as it was.
  Conditions: the lists are short.
-/
import Derived.Test.YtccjognnehoodafDoorMgbg
import Derived.Test.YtccjognnehoodafDoorMgbh
import Derived.Deep.Cut
import Derived.Deep.RegionHeld3
import Derived.RangeFuncNested
import Derived.RangeFuncBox
import Derived.RangeFuncBound
import Derived.RangeFuncCalls
import Derived.RangeFuncLeaves
import Derived.Shelf.Abstract
import Derived.Shelf.RegionOpen
import Derived.WalkKit
import Derived.OwnWalkIn
import Derived.TacticsInMore
import Derived.LoopNIn
import Derived.LoopIn
namespace Go.Proofs.YtccjognnehoodafDoor
open Go.RowKit

theorem zero_intsQ (w : World) : (zeroValue 23).run Tryd.prog w = .ok (.slice none 0 0) w := by kernel_rfl
theorem zero_seensQ (w : World) : (zeroValue 24).run Tryd.prog w = .ok (.slice none 0 0) w := by kernel_rfl
theorem zero_intQ (w : World) : (zeroValue 3).run Tryd.prog w = .ok (.int .i64 0) w := by kernel_rfl
section
variable {w0 w : World} {R : Nat} {S F : Value} {q : Crs} {c : CLay}
theorem CrsAt.wrotes (h : CrsAt w0 w R S F q c) {t : Int} (h1 : 1 ≤ t) (h6 : t ≤ 6) : ∃ ad cap, c.wv t = .slice ad (q.wrote t).length cap ∧ IsInts w (.slice ad (q.wrote t).length cap) (q.wrote t) := by
  obtain ⟨d, rfl⟩ : ∃ d : Nat, t = d := ⟨t.toNat, by omega⟩
  have hr := h.wrow d (by omega)
  obtain ⟨ad, cap, e, -⟩ := own_slice3 hr
  exact ⟨ad, cap, e, by rw [← e]; exact isInts_own hr rfl⟩
theorem CrsAt.reads (h : CrsAt w0 w R S F q c) {t : Int} (h1 : 1 ≤ t) (h6 : t ≤ 6) : ∃ ad cap, c.rv t = .slice ad (q.read t).length cap ∧ IsOps w (.slice ad (q.read t).length cap) (q.read t) := by
  obtain ⟨d, rfl⟩ : ∃ d : Nat, t = d := ⟨t.toNat, by omega⟩
  have hr := h.rrow d (by omega)
  obtain ⟨ad, cap, e, -⟩ := own_slice3 hr
  exact ⟨ad, cap, e, by rw [← e]; exact isOps_row hr rfl⟩
end
set_option maxHeartbeats 4000000 in
theorem wrote_crs {w0 w : World} {R : Nat} {S F : Value} {q : Crs} {c : CLay} (h : CrsAt w0 w R S F q c) {t : Int} (h1 : 1 ≤ t) (h6 : t ≤ 6) (item : Int) (hl : (q.wrote t).length ≤ 1000) :
    Calls Tryd.prog 41 #[.pointer (some ⟨R, 0, none⟩), .int .i64 t, .int .i64 item] w fun e w' => e = .returned (.bool (inB (q.wrote t) item)) ∧ w' = w := by
  have c5 := h.c5
  obtain ⟨m, hm⟩ := h.wr
  have HM := hid_q hm
  obtain ⟨ad, cap, hv, hI⟩ := h.wrotes h1 h6
  have HV : Hid ((c.hw t).getD (.slice none 0 0) = .slice ad (q.wrote t).length cap) := hv
  have HC := hid_q (contains_nums (q.wrote t) _ item w hI hl)
  have hwf := wf_deal h1 h6
  obtain ⟨n, hn⟩ : ∃ n, (q.wrote t).length = n := ⟨_, rfl⟩
  rw [hn] at HV HC
  clear h hm hv hI h1 h6 hl hn
  go_enter Tryd.func41, Tryd.ntmps41
  go_wp2_with (first | (at_lookup; refine wp_look _ rfl (.tmp 10) (.tmp 11) 80 false rfl 23 Tryd.underlying80 (.slice none 0 0) (zero_intsQ _) c.W m c.hw rfl HM.out t rfl hwf (.slice ad n cap) _ HV.out rfl ?_) | (go_at_call 58; refine HC.out.mono ?_; rintro e w1 ⟨rfl, hw1⟩; rw [hw1]; clear hw1))
  go_ret
  exact ⟨rfl, rfl⟩
set_option maxHeartbeats 4000000 in
theorem read_crs {w0 w : World} {R : Nat} {S F : Value} {q : Crs} {c : CLay} (h : CrsAt w0 w R S F q c) {t : Int} (h1 : 1 ≤ t) (h6 : t ≤ 6) (hl : (q.read t).length ≤ 1000) :
    Calls Tryd.prog 35 #[.pointer (some ⟨R, 0, none⟩), .int .i64 t] w fun e w' => ∃ v', e = .returned v' ∧ w'.ownsRow w.heap.size 63 3 v' (q.read t).length (flat (q.read t)) ∧ Below w.heap.size w w' := by
  have c4 := h.c4
  obtain ⟨m, hm⟩ := h.rd
  have HM := hid_q hm
  obtain ⟨ad, cap, hv, hI⟩ := h.reads h1 h6
  have HV : Hid ((c.hr t).getD (.slice none 0 0) = .slice ad (q.read t).length cap) := hv
  have HC := hid_q (clone_seen (q.read t) _ w hI hl)
  have hwf := wf_deal h1 h6
  obtain ⟨n, hn⟩ : ∃ n, (q.read t).length = n := ⟨_, rfl⟩
  rw [hn] at HV HC
  have HN := hid_q hn
  clear h hm hv hI h1 h6 hl hn
  go_enter Tryd.func35, Tryd.ntmps35
  go_wp2_with (first | (at_lookup; refine wp_look _ rfl (.tmp 8) (.tmp 9) 79 false rfl 24 Tryd.underlying79 (.slice none 0 0) (zero_seensQ _) c.D m c.hr rfl HM.out t rfl hwf (.slice ad n cap) _ HV.out rfl ?_) | (go_at_call 55; refine HC.out.mono ?_; rintro e w1 ⟨v1, rfl, ho1, hb1⟩))
  go_ret
  exact ⟨v1, rfl, by rw [HN.out]; exact ho1, hb1⟩
set_option maxHeartbeats 4000000 in
theorem written_crs {w0 w : World} {R : Nat} {S F : Value} {q : Crs} {c : CLay} (h : CrsAt w0 w R S F q c) {t : Int} (h1 : 1 ≤ t) (h6 : t ≤ 6) (hl : (q.wrote t).length ≤ 1000) :
    Calls Tryd.prog 64 #[.pointer (some ⟨R, 0, none⟩), .int .i64 t] w fun e w' => ∃ v', e = .returned v' ∧ w'.ownsRow w.heap.size 3 1 v' (q.wrote t).length ((q.wrote t).map (Value.int .i64)) ∧ Below w.heap.size w w' := by
  have c5 := h.c5
  obtain ⟨m, hm⟩ := h.wr
  have HM := hid_q hm
  obtain ⟨ad, cap, hv, hI⟩ := h.wrotes h1 h6
  have HV : Hid ((c.hw t).getD (.slice none 0 0) = .slice ad (q.wrote t).length cap) := hv
  have HC := hid_q (clone_ints (q.wrote t) _ w hI hl)
  have hwf := wf_deal h1 h6
  obtain ⟨n, hn⟩ : ∃ n, (q.wrote t).length = n := ⟨_, rfl⟩
  rw [hn] at HV HC
  have HN := hid_q hn
  clear h hm hv hI h1 h6 hl hn
  go_enter Tryd.func64, Tryd.ntmps64
  go_wp2_with (first | (at_lookup; refine wp_look _ rfl (.tmp 8) (.tmp 9) 80 false rfl 23 Tryd.underlying80 (.slice none 0 0) (zero_intsQ _) c.W m c.hw rfl HM.out t rfl hwf (.slice ad n cap) _ HV.out rfl ?_) | (go_at_call 49; refine HC.out.mono ?_; rintro e w1 ⟨v1, rfl, ho1, hb1⟩))
  go_ret
  exact ⟨v1, rfl, by rw [HN.out]; exact ho1, hb1⟩
set_option maxHeartbeats 4000000 in
theorem done_crs {w0 w : World} {R : Nat} {S F : Value} {q : Crs} {c : CLay} (h : CrsAt w0 w R S F q c) (hl : q.done.length ≤ 1000) :
    Calls Tryd.prog 28 #[.pointer (some ⟨R, 0, none⟩)] w fun e w' => ∃ v', e = .returned v' ∧ w'.ownsRow w.heap.size 3 1 v' q.done.length (q.done.map (Value.int .i64)) ∧ Below w.heap.size w w' := by
  have c2 := h.c2
  obtain ⟨ad, cap, e1, -⟩ := own_slice3 h.done
  have hI := isInts_own h.done rfl
  rw [e1] at c2 hI
  have HC := hid_q (clone_ints q.done _ w hI hl)
  obtain ⟨n, hn⟩ : ∃ n, q.done.length = n := ⟨_, rfl⟩
  rw [hn] at c2 HC
  have HN := hid_q hn
  clear h hl e1 hI hn
  go_enter Tryd.func28, Tryd.ntmps28
  go_wp2_with (go_at_call 49; refine HC.out.mono ?_; rintro e w1 ⟨v1, rfl, ho1, hb1⟩)
  go_ret
  exact ⟨v1, rfl, by rw [HN.out]; exact ho1, hb1⟩
theorem size_intQ (W : World) : (sizeOf (Tryd.prog.elem 23)).run Tryd.prog W = .ok 1 W := by kernel_rfl
theorem elem_intQ : Tryd.prog.underlying 23 = some (.slice (Tryd.prog.elem 23)) := by kernel_rfl
/-- A row of numbers from its n-th on. -/
theorem own_drop {w : World} {base e : Nat} {v : Value} {l : List Int} (h : w.ownsRow base e 1 v l.length (l.map (Value.int .i64))) {n : Nat} (hn : n ≤ l.length) :
    ∃ ad cap, (∀ W, (Instr.sliceAt 23 v (some (.int .i64 (n : Int))) none none).run Tryd.prog W = .ok (.slice ad (l.length - n) cap) W) ∧ IsInts w (.slice ad (l.length - n) cap) (l.drop n) := by
  have hI := isInts_own h rfl
  obtain ⟨_, ⟨hv, hd⟩ | ⟨g, cap, cur, hv, hb, hg, hnc, hm, hsz, htk⟩⟩ := h
  · have h0 : l = [] := List.length_eq_zero_iff.1 hd
    subst h0
    have hn0 : n = 0 := by simpa using hn
    subst hn0
    refine ⟨none, 0, fun W => ?_, isInts_nil w⟩
    rw [hv, run_sliceAt_slice W _ _ _ _ _ elem_intQ, run_slice_l W _ _ _ _ elem_intQ _ _ (by omega) (by simp), size_intQ]
    rfl
  · refine ⟨if cap = n then some ⟨g, 0, none⟩ else some ⟨g, n, none⟩, cap - n, fun W => ?_, ?_⟩
    · rw [hv, run_sliceAt_slice W _ _ _ _ _ elem_intQ, run_slice_l W _ _ _ _ elem_intQ _ _ (by omega) (by omega), size_intQ]
      simp [Result.andThen, sliced, Addr.add_lit]
    · obtain ⟨ad, b, off, cap', e1, ha, hz, hbB, hc⟩ := hI
      rw [hv] at e1
      injection e1 with e2 e3 e4
      refine ⟨_, b, off + n, _, by rw [List.length_drop], fun hp => ?_, fun hno => (by split at hno <;> cases hno), ?_, fun k hk => ?_⟩
      · rw [List.length_drop] at hp
        have h2 := ha (by omega)
        rw [← e2] at h2
        injection h2 with h2
        injection h2 with h2 h3
        rw [if_neg (by omega), ← h2, ← h3]
        simp
      · rcases hbB with h5 | h5
        · exact .inl h5
        · exact .inr (by rw [h5]; simp)
      · rw [List.length_drop] at hk
        rw [Nat.add_assoc, hc (n + k) (by omega)]
        simp [List.getD]
/-- A row of numbers up to its n-th. -/
theorem own_front {w : World} {base e : Nat} {v : Value} {l : List Int} (h : w.ownsRow base e 1 v l.length (l.map (Value.int .i64))) {n : Nat} (hn : n ≤ l.length) :
    ∃ ad cap, (∀ W, (Instr.sliceAt 23 v none (some (.int .i64 (n : Int))) none).run Tryd.prog W = .ok (.slice ad n cap) W) ∧ IsInts w (.slice ad n cap) (l.take n) := by
  have hI := isInts_own h rfl
  have hlt : (l.take n).length = n := by rw [List.length_take]; omega
  obtain ⟨_, ⟨hv, hd⟩ | ⟨g, cap, cur, hv, hb, hg, hnc, hm, hsz, htk⟩⟩ := h
  · have h0 : l = [] := List.length_eq_zero_iff.1 hd
    subst h0
    have hn0 : n = 0 := by simpa using hn
    subst hn0
    refine ⟨none, 0, fun W => ?_, isInts_nil w⟩
    rw [hv, run_sliceAt_slice W _ _ _ _ _ elem_intQ, run_slice_h W _ _ _ _ elem_intQ _ _ (by omega) (by simp), size_intQ]
    rfl
  · refine ⟨some ⟨g, 0, none⟩, cap, fun W => ?_, ?_⟩
    · rw [hv, run_sliceAt_slice W _ _ _ _ _ elem_intQ, run_slice_h W _ _ _ _ elem_intQ _ _ (by omega) (by omega), size_intQ]
      simp [Result.andThen, sliced, Addr.add_lit]
    · obtain ⟨ad, b, off, cap', e1, ha, hz, hbB, hc⟩ := hI
      rw [hv] at e1
      injection e1 with e2 e3 e4
      refine ⟨_, b, off, _, by rw [hlt], fun hp => ?_, fun hno => (by cases hno), ?_, fun k hk => ?_⟩
      · rw [hlt] at hp
        have h2 := ha (by omega)
        rw [← e2] at h2
        exact h2
      · rcases hbB with h5 | h5
        · exact .inl h5
        · exact .inr (by rw [h5]; simp)
      · rw [hlt] at hk
        rw [hc k (by omega)]
        simp [List.getD, hk]
set_option maxHeartbeats 4000000 in
set_option maxRecDepth 100000 in
theorem since_crs {w0 w : World} {R : Nat} {S F : Value} {q : Crs} {c : CLay} (h : CrsAt w0 w R S F q c) {t : Int} (h1 : 1 ≤ t) (h6 : t ≤ 6) {n : Nat} (hn : q.began t = some n) (hnl : n ≤ q.done.length) (hl : q.done.length ≤ 1000) :
    Calls Tryd.prog 37 #[.pointer (some ⟨R, 0, none⟩), .int .i64 t] w fun e w' => ∃ v', e = .returned v' ∧ IsInts w' v' (q.done.drop n) ∧ Below w.heap.size w w' := by
  have c2 := h.c2
  have c3 := h.c3
  obtain ⟨m, hm⟩ := h.beg
  have hwf := wf_deal h1 h6
  obtain ⟨ad1, cap1, e1, -⟩ := own_slice3 h.done
  have hrow := h.done
  rw [e1] at hrow c2
  obtain ⟨ad2, cap2, hsl, hI⟩ := own_drop hrow hnl
  have hg : (begM q.began t).getD (.int .i64 0) = .int .i64 (n : Int) := by unfold begM; rw [hn]; rfl
  have hlk0 : (Instr.lookup 78 (.map (some c.B)) (.int .i64 t) false).run Tryd.prog w.drew = .ok (.int .i64 (n : Int)) w.drew := by
    have := (MapIs.drew hm).look false Tryd.underlying78 (zero_intQ _) hwf
    rw [hg] at this
    exact this
  obtain ⟨M, hM⟩ : ∃ M, q.done.length - n = M := ⟨_, rfl⟩
  obtain ⟨N, hN⟩ : ∃ N, q.done.length = N := ⟨_, rfl⟩
  rw [hM] at hsl hI
  rw [hN] at hsl c2
  have HC : Hid (∀ W, Below w.heap.size w W → Calls Tryd.prog 49 #[.slice ad2 M cap2] W fun e w' => ∃ v', e = .returned v' ∧ w'.ownsRow W.heap.size 3 1 v' (q.done.drop n).length ((q.done.drop n).map (Value.int .i64)) ∧ Below W.heap.size W w') := fun W hW =>
    clone_ints (q.done.drop n) _ W (hI.below hW (Nat.le_refl _)) (by rw [List.length_drop]; omega)
  have HKC : Hid (∀ W, Below w.heap.size w W → W.cell? ⟨R, 2, none⟩ = some (.slice ad1 N cap1) ∧ W.cell? ⟨R, 3, none⟩ = some (.map (some c.B))) := fun W hW => ⟨(hW.cell (p := ⟨R, 2, none⟩) h.lt).trans c2, (hW.cell (p := ⟨R, 3, none⟩) h.lt).trans c3⟩
  clear h hm h1 h6 hn hnl hl e1 hrow hI hg hM hN
  go_enter Tryd.func37, Tryd.ntmps37
  go_upto_region 1 with (fail)
  go_region_held3 (fun w' => w'.cell? ⟨R, 2, none⟩ = some (.slice ad1 N cap1) ∧ w'.cell? ⟨R, 3, none⟩ = some (.map (some c.B))) (first | exact ⟨ke0, ke1⟩ | exact ⟨c2, c3⟩) (first | (go_at_call 49; refine (HC.out _ (Below.refl _ w).drew).mono ?_; rintro e w1 ⟨v1, rfl, ho1, hb0⟩; have hb1 : Below w.heap.size w w1 := (Below.refl _ w).drew.trans hb0; clear hb0; obtain ⟨ke0, ke1⟩ := HKC.out w1 hb1))
  all_goals
    go_wp2_with fail
    go_ret
    exact ⟨_, rfl, isInts_own ho1 rfl, hb1⟩
end Go.Proofs.YtccjognnehoodafDoor

namespace Go.Proofs.YtccjognnehoodafDoor
open Go.RowKit Go.Shelf

attribute [local go_sem] Oper.semAt_some

abbrev Sx := { t : Int // 1 ≤ t ∧ t ≤ 6 }
def sx0 : Sx := ⟨1, by omega, by omega⟩
def uptoB {α : Type} (f : Nat → α) (k : Nat) : List α := (List.range k).map f
theorem uptoB_succ {α : Type} (f : Nat → α) (k : Nat) : uptoB f (k + 1) = uptoB f k ++ [f k] := by simp [uptoB, List.range_succ]
theorem uptoB_length {α : Type} (f : Nat → α) (k : Nat) : (uptoB f k).length = k := by simp [uptoB]
def backF (zs : List Sx) (k : Nat) : Nat × Sx := (zs.length - 1 - k, zs[zs.length - 1 - k]?.getD sx0)
set_option maxRecDepth 100000 in
set_option maxHeartbeats 4000000 in
theorem back1_in (F : Fence) (n : Nat) (h7 : F.fn 93) (hro : F.round = none) (hn : 1 ≤ n) (l Bs n₀ b off cap : Nat) (ad : Option Addr) (zs : List Sx) (hreach : zs.length ≤ 1000) (hBn : Bs < n₀) (J Jx : List (Nat × Sx) → World → Prop)
    (hY : ∀ pre x W, J pre W → pre.length < zs.length → YieldAt F (n - 1) Tryd.prog l #[.int .i64 (x.1 : Int), .int .i64 x.2.1] W fun e W' =>
      (e = .returned (.bool true) ∧ J (pre ++ [x]) W' ∧ Below n₀ W W') ∨ (e = .returned (.bool false) ∧ Jx (pre ++ [x]) W'))
    (W : World) (hBs : W.cell? ⟨Bs, 0, none⟩ = some (.slice ad zs.length cap)) (hc : ∀ j, j < zs.length → ad = some ⟨b, off, none⟩ ∧ b < n₀ ∧ W.cell? ⟨b, off + j, none⟩ = some (.int .i64 (zs[j]?.getD sx0).1)) (h0 : J [] W) :
    CallsIn F n Tryd.prog 93 #[.func (.yield l) #[] #[], .pointer (some ⟨Bs, 0, none⟩)] W fun e W' => (∃ v, e = .returned v) ∧
      ((∃ ys, ys = uptoB (backF zs) zs.length ∧ J ys W') ∨ (∃ pre, (∃ k, k ≤ zs.length ∧ pre = uptoB (backF zs) k) ∧ Jx pre W')) := by
  obtain ⟨N, hN⟩ : ∃ N, zs.length = N := ⟨_, rfl⟩
  rw [hN] at hBs hreach
  have HC : Hid (∀ j, j < N → ad = some ⟨b, off, none⟩ ∧ b < n₀ ∧ W.cell? ⟨b, off + j, none⟩ = some (.int .i64 (zs[j]?.getD sx0).1)) := fun j hj => hc j (by rw [hN]; exact hj)
  have HY : Hid (∀ pre x W, J pre W → pre.length < N → YieldAt F (n - 1) Tryd.prog l #[.int .i64 (x.1 : Int), .int .i64 x.2.1] W fun e W' => (e = .returned (.bool true) ∧ J (pre ++ [x]) W' ∧ Below n₀ W W') ∨ (e = .returned (.bool false) ∧ Jx (pre ++ [x]) W')) := fun pre x W h1 h2 => hY pre x W h1 (by rw [hN]; exact h2)
  have HN := hid_q hN
  clear hc hY hN
  refine callsIn_of_wp Tryd.func93 rfl h7 ?_ hro
  simp only [Tryd.ntmps93, List.size_toArray, List.length_cons, List.length_nil, Nat.reduceAdd, Nat.reduceSub, Array.replicate_succ, Array.replicate_zero, List.push_toArray, List.append_toArray, List.nil_append, List.cons_append]
  gi_wp2
  gi_loopw [3] (fun i wr => ∃ k j : Nat, k + j = N ∧ i = .int .i64 ((j : Int) - 1) ∧ J (uptoB (backF zs) k) wr ∧ Below n₀ W wr)
    (fun i _ => (intOf i + 1).toNat)
  case atStart => exact ⟨0, N, by omega, rfl, h0, Below.refl _ _⟩
  case round =>
    obtain ⟨k, j, hk, rfl, hJs, hnx⟩ := hrel
    cases j with
    | zero =>
      gi_wp2
      go_end0
      obtain rfl : k = N := by omega
      exact ⟨⟨_, rfl⟩, .inl ⟨_, by rw [HN.out], hJs⟩⟩
    | succ j =>
      have ej : ((j + 1 : Nat) : Int) - 1 = (j : Int) := by omega
      rw [ej]
      obtain ⟨rfl, hbn, hcx⟩ := HC.out j (by omega)
      have hcx' := (hnx.cell (p := ⟨b, off + j, none⟩) hbn).trans hcx
      have hBs' := (hnx.cell (p := ⟨Bs, 0, none⟩) hBn).trans hBs
      have hF : backF zs k = (j, zs[j]?.getD sx0) := by unfold backF; rw [HN.out, show N - 1 - k = j by omega]
      obtain ⟨fn, tmps, assign, body, hy, hR⟩ := HY.out _ (j, zs[j]?.getD sx0) wr hJs (by rw [uptoB_length]; omega)
      dsimp only at hy
      have hjN : j < N := by omega
      gi_wp2
      refine hR.mono ?_
      rintro e W3 (⟨rfl, hJ3, hk3⟩ | ⟨rfl, hJx3⟩)
      · gi_wp2
        go_roundw
        case rel => exact ⟨k + 1, j, by omega, by simp, by rw [uptoB_succ, hF]; exact hJ3, hnx.trans hk3⟩
        case measure => simp [intOf]
      · gi_wp2
        refine bodyPost_ret (results_none rfl _ _ _) rfl ?_
        exact ⟨⟨_, rfl⟩, .inr ⟨_, ⟨k + 1, by have := HN.out; omega, rfl⟩, by rw [uptoB_succ, hF]; exact hJx3⟩⟩
theorem back_stops (F : Fence) (n : Nat) (h7 : F.fn 93) (hro : F.round = none) (hn : 1 ≤ n) (Bs n₀ b off cap : Nat) (ad : Option Addr) (zs : List Sx) (hreach : zs.length ≤ 1000) (w : World) (hBs : Bs < n₀) (hn₀ : n₀ ≤ w.heap.size)
    (hc : w.cell? ⟨Bs, 0, none⟩ = some (.slice ad zs.length cap)) (hI : ∀ j, j < zs.length → ad = some ⟨b, off, none⟩ ∧ b < n₀ ∧ w.cell? ⟨b, off + j, none⟩ = some (.int .i64 (zs[j]?.getD sx0).1)) :
    SeqStopsK F n Tryd.prog 93 #[.pointer (some ⟨Bs, 0, none⟩)] (fun x : Nat × Sx => #[Value.int .i64 (x.1 : Int), Value.int .i64 x.2.1]) (Below n₀) (fun ys => ys = uptoB (backF zs) zs.length)
      (fun pre => ∃ k, k ≤ zs.length ∧ pre = uptoB (backF zs) k) zs.length w := fun l J Jx W hW _ _ hY h0 =>
  back1_in F n h7 hro hn l Bs n₀ b off cap ad zs hreach hBs J Jx hY W ((hW.cell (p := ⟨Bs, 0, none⟩) (by show Bs < _; omega)).trans hc) (fun j hj => ⟨(hI j hj).1, (hI j hj).2.1, (hW.cell (p := ⟨b, off + j, none⟩) (by have := (hI j hj).2.1; show b < _; omega)).trans (hI j hj).2.2⟩) h0
set_option maxHeartbeats 1000000 in
theorem back_in (F : Fence) (n : Nat) (h5 : F.fn 82) (hro : F.round = none) (a : Option Addr) (len cap : Nat) (w : World) :
    CallsIn F n Tryd.prog 82 #[.slice a len cap] w fun e w' => e = .returned (.func (.func 93) #[] #[.pointer (some ⟨w.heap.size, 0, none⟩)]) ∧ w' = w.alloc (.cells #[.slice a len cap] 23) := by
  refine callsIn_of_wp Tryd.func82 rfl h5 ?_ hro
  simp only [Tryd.ntmps82, List.size_toArray, List.length_cons, List.length_nil, Nat.reduceAdd, Nat.reduceSub, Array.replicate_succ, Array.replicate_zero, List.push_toArray, List.append_toArray, List.nil_append, List.cons_append]
  gi_wp2
  go_ret
  exact ⟨rfl, rfl⟩
theorem back_take (zs : List Sx) {k : Nat} (hk : k < zs.length) : (zs.map (·.1)).take (zs.length - k) = (zs.map (·.1)).take (zs.length - (k + 1)) ++ [(backF zs k).2.1] := by
  have e : zs.length - k = zs.length - (k + 1) + 1 := by omega
  rw [e, List.take_succ_eq_append_getElem (by simp; omega)]
  congr 2
  unfold backF
  rw [show zs.length - 1 - k = zs.length - (k + 1) by omega, List.getElem?_eq_getElem (by omega)]
  simp
/-- Those from the end on did not write it. -/
theorem last_back (wr : Int → List Int) (item : Int) (zs : List Sx) : ∀ k, k ≤ zs.length → (∀ p ∈ uptoB (backF zs) k, inB (wr p.2.1) item = false) → lastQ wr (zs.map (·.1)) item = lastQ wr ((zs.map (·.1)).take (zs.length - k)) item := by
  intro k
  induction k with
  | zero => intro _ _; rw [Nat.sub_zero, List.take_of_length_le (by simp)]
  | succ k ih =>
    intro hk hp
    rw [uptoB_succ] at hp
    rw [ih (by omega) fun p hm => hp p (List.mem_append_left _ hm), back_take zs (by omega), lastQ_snoc, if_neg (by rw [hp _ (List.mem_append_right _ (List.mem_singleton.2 rfl))]; decide)]
theorem last_done (wr : Int → List Int) (item : Int) (zs : List Sx) (hp : ∀ p ∈ uptoB (backF zs) zs.length, inB (wr p.2.1) item = false) : lastQ wr (zs.map (·.1)) item = 0 := by
  rw [last_back wr item zs zs.length (Nat.le_refl _) hp, Nat.sub_self, List.take_zero]
  rfl
theorem last_stop (wr : Int → List Int) (item : Int) (zs : List Sx) {k : Nat} (hk : k < zs.length) (hp : ∀ p ∈ uptoB (backF zs) k, inB (wr p.2.1) item = false) (ht : inB (wr (backF zs k).2.1) item = true) : lastQ wr (zs.map (·.1)) item = (backF zs k).2.1 := by
  rw [last_back wr item zs k (by omega) hp, back_take zs hk, lastQ_snoc, if_pos ht]
theorem sx_list : ∀ l : List Int, (∀ t ∈ l, 1 ≤ t ∧ t ≤ 6) → ∃ zs : List Sx, zs.map (·.1) = l := by
  intro l
  induction l with
  | nil => intro _; exact ⟨[], rfl⟩
  | cons t r ih =>
    intro h
    obtain ⟨zs, hz⟩ := ih fun x hx => h x (List.mem_cons_of_mem _ hx)
    exact ⟨⟨t, h t List.mem_cons_self⟩ :: zs, by rw [List.map_cons, hz]⟩
set_option maxRecDepth 100000 in
set_option maxHeartbeats 8000000 in
theorem lastOf_crs {w0 w : World} {R : Nat} {S F : Value} {q : Crs} {c : CLay} (h : CrsAt w0 w R S F q c) (hq : CrsOk 1000 q) (l : List Int) (v : Value) (hI : IsInts w v l) (h6 : ∀ t ∈ l, 1 ≤ t ∧ t ≤ 6) (hl : l.length ≤ 1000) (item : Int) :
    Calls Tryd.prog 54 #[.pointer (some ⟨R, 0, none⟩), v, .int .i64 item] w fun e w' => e = .returned (.int .i64 (lastQ q.wrote l item)) ∧ Below w.heap.size w w' := by
  obtain ⟨zs, hz⟩ := sx_list l h6
  have hzl : zs.length = l.length := by rw [← hz]; simp
  obtain ⟨ad, b, off, cap, rfl, ha, -, hbB, hc⟩ := hI
  rw [← hzl]
  have HI : Hid (∀ j, j < zs.length → ad = some ⟨b, off, none⟩ ∧ b < w.heap.size ∧ w.cell? ⟨b, off + j, none⟩ = some (.int .i64 (zs[j]?.getD sx0).1)) := fun j hj => by
    have hj' : j < l.length := by omega
    refine ⟨ha (by omega), ?_, ?_⟩
    · rcases hbB with h1 | h1
      · exact h1
      · rw [h1] at hj'; simp at hj'
    · rw [hc j hj', ← hz]
      simp [List.getD, List.getElem?_eq_getElem hj]
  have HL := hid_q h
  have HQ := hid_q hq
  have HZ : Hid (l = zs.map (·.1)) := hz.symm
  have HR : Hid (zs.length ≤ 1000) := by show zs.length ≤ 1000; rw [hzl]; exact hl
  obtain ⟨N, hN⟩ : ∃ N, zs.length = N := ⟨_, rfl⟩
  rw [hN]
  have HN := hid_q hN
  clear h hq hz hzl ha hbB hc hN hl h6
  refine (callsIn_wide (n := 3)).1 ?_
  refine callsIn_of_wp_marks Tryd.func54 rfl trivial ?_ rfl
  simp only [Tryd.ntmps54, List.size_toArray, List.length_cons, List.length_nil, Nat.reduceAdd, Nat.reduceSub, Array.replicate_succ, Array.replicate_zero, List.push_toArray, List.append_toArray, List.nil_append, List.cons_append]
  gi_wp2_with (refine ⟨trivial, ?_⟩; gi_at_call 82; refine (back_in Fence.wide _ trivial rfl _ _ _ _).mono ?_; rintro e w' ⟨rfl, rfl⟩)
  obtain ⟨s, hs⟩ : ∃ s, w.heap.size = s := ⟨_, rfl⟩
  obtain ⟨W0, hW0⟩ : ∃ W0, W0 = (((w.alloc (.cells #[.pointer (some ⟨R, 0, none⟩)] 67)).alloc (.cells #[.int .i64 item] 3)).alloc (.cells #[.int .i64 0] 3)).alloc (.cells #[.slice ad N cap] 23) := ⟨_, rfl⟩
  have hB0 : Below w.heap.size w W0 := by rw [hW0]; exact ((((Below.refl _ w).alloc (Nat.le_refl _) _).alloc (by simp) _).alloc (by simp; omega) _).alloc (by simp; omega) _
  have hsz : W0.heap.size = s + 4 := by rw [hW0, ← hs]; simp
  have bx : ∀ (W : World) (T : TypeId) (v : Value), Boxed (W.alloc (.cells #[v] T)) W.heap.size T v := fun W T v => Boxed.new W T v
  have b0 : Boxed W0 s 67 (.pointer (some ⟨R, 0, none⟩)) := by rw [hW0, ← hs]; exact (((bx w _ _).alloc _).alloc _).alloc _
  have b1 : Boxed W0 (s + 1) 3 (.int .i64 item) := by
    have := ((bx (w.alloc (.cells #[.pointer (some ⟨R, 0, none⟩)] 67)) 3 (.int .i64 item)).alloc (.cells #[.int .i64 0] 3)).alloc (.cells #[.slice ad N cap] 23)
    rw [World.size_alloc, hs] at this
    rw [hW0]; exact this
  have b2 : Boxed W0 (s + 1 + 1) 3 (.int .i64 0) := by
    have := (bx ((w.alloc (.cells #[.pointer (some ⟨R, 0, none⟩)] 67)).alloc (.cells #[.int .i64 item] 3)) 3 (.int .i64 0)).alloc (.cells #[.slice ad N cap] 23)
    rw [World.size_alloc, World.size_alloc, hs] at this
    rw [hW0]; exact this
  have b3 : Boxed W0 (s + 1 + 1 + 1) 23 (.slice ad N cap) := by
    have := bx (((w.alloc (.cells #[.pointer (some ⟨R, 0, none⟩)] 67)).alloc (.cells #[.int .i64 item] 3)).alloc (.cells #[.int .i64 0] 3)) 23 (.slice ad N cap)
    rw [World.size_alloc, World.size_alloc, World.size_alloc, hs] at this
    rw [hW0]; exact this
  rw [← hW0]
  simp only [hs]
  have HI0 : Hid (∀ j, j < zs.length → ad = some ⟨b, off, none⟩ ∧ b < s + 4 ∧ W0.cell? ⟨b, off + j, none⟩ = some (.int .i64 (zs[j]?.getD sx0).1)) := fun j hj => by
    obtain ⟨u1, u2, u3⟩ := HI.out j hj
    exact ⟨u1, by omega, (hB0.cell (p := ⟨b, off + j, none⟩) u2).trans u3⟩
  clear hW0 bx
  refine wpIn_rangeFunc_ownG rfl (by omega) (gf := 93) (lb := #[.pointer (some ⟨s + 1 + 1 + 1, 0, none⟩)]) rfl trivial (enters_of Tryd.func93 (by kernel_rfl) rfl)
    (back_stops Fence.wide _ trivial rfl (by omega) (s + 1 + 1 + 1) (s + 4) b off cap ad zs HR.out W0 (by omega) (by omega) (by rw [HN.out]; exact b3.cell) HI0.out) belowK_t (belowK_b (by omega)) (Below.refl _ _) (fun _ => rfl)
    (fun pre W => ((∀ p ∈ pre, inB (q.wrote p.2.1) item = false) ∧ W.cell? ⟨s, 0, none⟩ = some (.pointer (some ⟨R, 0, none⟩)) ∧ W.cell? ⟨s + 1, 0, none⟩ = some (.int .i64 item) ∧ W.cell? ⟨s + 1 + 1, 0, none⟩ = some (.int .i64 0) ∧ W.frozen? ⟨s + 1 + 1, 0, none⟩ = false) ∧ Below s w W)
    (fun c pre W => (c = .ret ∧ ∃ ini last, pre = ini ++ [last] ∧ (∀ p ∈ ini, inB (q.wrote p.2.1) item = false) ∧ inB (q.wrote last.2.1) item = true ∧ W.cell? ⟨s + 1 + 1, 0, none⟩ = some (.int .i64 last.2.1)) ∧ Below s w W)
    (OwnFrom.and (Own.from (fun s A B row hs hg hr => ⟨hs.1, cell_kept hs.2.1 hg hr, cell_kept hs.2.2.1 hg hr, cell_kept hs.2.2.2.1 hg hr, (frozen_kept hs.2.2.2.1 hg hr).trans hs.2.2.2.2⟩) _) (ownFrom_below (by omega) (by omega)))
    (fun c => OwnFrom.and (Own.from (fun s A B row hs hg hr => by obtain ⟨hc, ini, last, e1, e2, e3, e4⟩ := hs; exact ⟨hc, ini, last, e1, e2, e3, cell_kept e4 hg hr⟩) _) (ownFrom_below (by omega) (by omega)))
    ⟨⟨by simp, b0.cell, b1.cell, b2.cell, b2.frozen⟩, hs ▸ hB0⟩
    (fun x => { tmps := #[.pointer (some ⟨R, 0, none⟩), .slice ad N cap, .int .i64 item, .pointer (some ⟨s, 0, none⟩), undef, .pointer (some ⟨s + 1, 0, none⟩), .pointer (some ⟨s + 1 + 1, 0, none⟩), undef, .int .i64 x.2.1, .slice ad N cap, .func (.func 93) #[] #[.pointer (some ⟨s + 1 + 1 + 1, 0, none⟩)], .int .i64 (x.1 : Int), .int .i64 x.2.1, undef, undef, undef, undef, undef], defers := [] }) ?assign ?body ?done ?stop
  case assign =>
    intro l x W K hK
    gi_wp2
    exact hK
  case body =>
    rintro l pre x W ⟨⟨hp, j0, j1, j2, hfr⟩, hB⟩ _
    have HCW := hid_q (wrote_crs (HL.out.below (hs ▸ hB)) x.2.2.1 x.2.2.2 item (HQ.out.lenW _))
    cases hin : inB (q.wrote x.2.1) item with
    | true =>
      rw [hin] at HCW
      gi_wp2_with (refine ⟨trivial, ?_⟩; gi_at_call 41; refine (CallsIn.inRound l (callsIn_wide.2 HCW.out)).mono ?_; rintro e w' ⟨rfl, rfl⟩)
      exact ⟨(KeepsOthers.setCell _ _ _).from _, ⟨rfl, pre, x, rfl, hp, hin, World.cell?_setCell_same' _ _ _ (by rw [j2]; rfl)⟩, hB.setCell (p := ⟨s + 1 + 1, 0, none⟩) (by show s ≤ s + 1 + 1; omega) _⟩
    | false =>
      rw [hin] at HCW
      gi_wp2_with (refine ⟨trivial, ?_⟩; gi_at_call 41; refine (CallsIn.inRound l (callsIn_wide.2 HCW.out)).mono ?_; rintro e w' ⟨rfl, rfl⟩)
      exact ⟨KeepsFrom.refl _ _, Below.refl _ _, ⟨fun p hp' => (List.mem_append.1 hp').elim (hp p) (fun e => by simp at e; subst e; exact hin), j0, j1, j2, hfr⟩, hB⟩
  case done =>
    rintro D ys W hD rfl ⟨⟨hne, j0, j1, j2, hfr⟩, hB⟩ hK
    gi_wp2
    have hK' := (KeepsOthers.setCell W ⟨s + 1 + 1, 0, none⟩ (.int .i64 0)).same D _ hK rfl
    refine ⟨by simp, .inl ⟨_, _, rfl, run_takeDeferred hK', ?_⟩⟩
    have hc5 := cell_kept (World.cell?_setCell_same' W ⟨s + 1 + 1, 0, none⟩ (.int .i64 0) (by rw [j2]; rfl)) (grownBy_putObj' _ D (.deferred none)) (fun r e => by cases e; exact ⟨_, hK', rfl⟩)
    refine ⟨.int .i64 0, ?_, ?_, hs ▸ (hB.setCell (p := ⟨s + 1 + 1, 0, none⟩) (by show s ≤ s + 1 + 1; omega) _).trans (belowK_b (w := w) (by omega) _ D _ _ (by omega) hK' rfl rfl)⟩
    · simp [results, Tryd.f54, go_sem, hc5]
    · rw [HZ.out, last_done _ _ _ hne]
  case stop =>
    rintro D c pre W hD ⟨k, hk, rfl⟩ ⟨⟨rfl, ini, last, e1, e2, e3, hcr⟩, hB⟩ hK
    gi_wp2
    refine ⟨by simp, .inl ⟨_, _, rfl, run_takeDeferred hK, ?_⟩⟩
    have hc5 := cell_kept hcr (grownBy_putObj' _ D (.deferred none)) (fun r e => by cases e; exact ⟨_, hK, rfl⟩)
    obtain ⟨k', rfl⟩ : ∃ k', k = k' + 1 := by
      cases k with
      | zero => simp [uptoB] at e1
      | succ k' => exact ⟨k', rfl⟩
    rw [uptoB_succ] at e1
    obtain ⟨rfl, e5⟩ := List.append_inj' e1 rfl
    obtain rfl : backF zs k' = last := by simpa using e5
    refine ⟨.int .i64 (backF zs k').2.1, ?_, ?_, hs ▸ hB.trans (belowK_b (w := w) (by omega) W D _ _ (by omega) hK rfl rfl)⟩
    · simp [results, Tryd.f54, go_sem, hc5]
    · rw [HZ.out, last_stop _ _ _ (by omega) e2 e3]
theorem last_crs {w0 w : World} {R : Nat} {S F : Value} {q : Crs} {c : CLay} (h : CrsAt w0 w R S F q c) (hq : CrsOk 1000 q) (item : Int) :
    Calls Tryd.prog 34 #[.pointer (some ⟨R, 0, none⟩), .int .i64 item] w fun e w' => e = .returned (.int .i64 (lastQ q.wrote q.done item)) ∧ Below w.heap.size w w' := by
  have c2 := h.c2
  obtain ⟨ad, cap, e1, -⟩ := own_slice3 h.done
  have hI := isInts_own h.done rfl
  rw [e1] at c2 hI
  have HC := hid_q (lastOf_crs h hq q.done _ hI hq.six hq.lenD item)
  obtain ⟨n, hn⟩ : ∃ n, q.done.length = n := ⟨_, rfl⟩
  rw [hn] at c2 HC
  clear h hq e1 hI hn
  go_enter Tryd.func34, Tryd.ntmps34
  go_wp2_with (go_at_call 54; refine HC.out.mono ?_; rintro e w1 ⟨rfl, hb1⟩)
  go_ret
  exact ⟨rfl, hb1⟩
set_option maxHeartbeats 4000000 in
set_option maxRecDepth 100000 in
theorem lastBefore_crs {w0 w : World} {R : Nat} {S F : Value} {q : Crs} {c : CLay} (h : CrsAt w0 w R S F q c) (hq : CrsOk 1000 q) {t : Int} (h1 : 1 ≤ t) (h6 : t ≤ 6) {n : Nat} (hn : q.began t = some n) (item : Int) :
    Calls Tryd.prog 63 #[.pointer (some ⟨R, 0, none⟩), .int .i64 t, .int .i64 item] w fun e w' => e = .returned (.int .i64 (lastQ q.wrote (q.done.take n) item)) ∧ Below w.heap.size w w' := by
  have c2 := h.c2
  have c3 := h.c3
  obtain ⟨m, hm⟩ := h.beg
  have hwf := wf_deal h1 h6
  obtain ⟨ad1, cap1, e1, -⟩ := own_slice3 h.done
  have hrow := h.done
  rw [e1] at hrow c2
  obtain ⟨ad2, cap2, hsl, hI⟩ := own_front hrow (hq.cnt t n hn)
  have hg : (begM q.began t).getD (.int .i64 0) = .int .i64 (n : Int) := by unfold begM; rw [hn]; rfl
  have hlk0 : (Instr.lookup 78 (.map (some c.B)) (.int .i64 t) false).run Tryd.prog w.drew = .ok (.int .i64 (n : Int)) w.drew := by
    have := (MapIs.drew hm).look false Tryd.underlying78 (zero_intQ _) hwf
    rw [hg] at this
    exact this
  obtain ⟨N, hN⟩ : ∃ N, q.done.length = N := ⟨_, rfl⟩
  rw [hN] at hsl c2
  have HC : Hid (∀ W, Below w.heap.size w W → Calls Tryd.prog 54 #[.pointer (some ⟨R, 0, none⟩), .slice ad2 n cap2, .int .i64 item] W fun e w' => e = .returned (.int .i64 (lastQ q.wrote (q.done.take n) item)) ∧ Below W.heap.size W w') := fun W hW =>
    lastOf_crs (h.below hW) hq (q.done.take n) _ (hI.below hW (Nat.le_refl _)) (fun t ht => hq.six t (List.mem_of_mem_take ht)) (by have := hq.lenD; rw [List.length_take]; omega) item
  have HKC : Hid (∀ W, Below w.heap.size w W → W.cell? ⟨R, 2, none⟩ = some (.slice ad1 N cap1) ∧ W.cell? ⟨R, 3, none⟩ = some (.map (some c.B))) := fun W hW => ⟨(hW.cell (p := ⟨R, 2, none⟩) h.lt).trans c2, (hW.cell (p := ⟨R, 3, none⟩) h.lt).trans c3⟩
  clear h hq hm h1 h6 hn e1 hrow hI hg hN
  go_enter Tryd.func63, Tryd.ntmps63
  go_upto_region 1 with (fail)
  go_region_held3 (fun w' => w'.cell? ⟨R, 2, none⟩ = some (.slice ad1 N cap1) ∧ w'.cell? ⟨R, 3, none⟩ = some (.map (some c.B))) (first | exact ⟨ke0, ke1⟩ | exact ⟨c2, c3⟩) (first | (go_at_call 54; refine (HC.out _ (Below.refl _ w).drew).mono ?_; rintro e w1 ⟨rfl, hb0⟩; have hb1 : Below w.heap.size w w1 := (Below.refl _ w).drew.trans hb0; clear hb0; obtain ⟨ke0, ke1⟩ := HKC.out w1 hb1))
  all_goals
    go_wp2_with fail
    go_ret
    exact ⟨rfl, hb1⟩
end Go.Proofs.YtccjognnehoodafDoor
