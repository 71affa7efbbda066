/-
  PROVED HERE: laneref2.Outcome, of deals as they ended: who is done, what each saw in that order, who wrote each item last. Old memory stays as it was.
  Conditions: there are at most six deals; what each saw and wrote is short; it wrote items 1 to 6.
-/
import Derived.Test.YtccjognnehoodafDoorRefOut0
import Derived.Test.YtccjognnehoodafDoorMgaf
import Derived.OwnWalk
import Derived.Deep.Cut
import Derived.Deep.CutRange
import Derived.Deep.CutBlock
import Derived.Deep.RegionHeld3
import Derived.Laws.Rows
namespace Go.Proofs.YtccjognnehoodafDoor
open Go.RowKit

theorem hid_u {p : Prop} (h : p) : Hid p := h
theorem infoSeenO : (Tryd.prog.info? 63).map (fun i => (i.zero, i.size, i.bytes)) = some (some (.agg #[.int .i64 0, .int .i64 0, .int .i64 0]), 3, 24) := by kernel_rfl
theorem outcome_info : (Tryd.prog.info? 26).map (fun i => i.size) = some 3 := by kernel_rfl
theorem last_zero (of : Int → Dl) : (fun _ => (0 : Int)) = lastF6 of [] := by funext i; rfl
theorem out_start {B w1 : World} {Z : Nat} {of : Int → Dl} (hz : B.heap[Z]? = some (.cells #[.slice none 0 0, .slice none 0 0, .slice none 0 0] 26 (0, 0))) (hown : w1.ownsRow B.heap.size 3 1 (.slice (some ⟨B.heap.size, 0, none⟩) 6 6) 6 (madeCells (Value.int .i64 0).cells (6 * 1)).toList) (hgr : B.grownBy w1 none) :
    OutAt B (w1.alloc (.cells #[.slice none 0 0, .slice none 0 0, .slice (some ⟨B.heap.size, 0, none⟩) 6 6] 26)) Z w1.heap.size B.heap.size (.slice none 0 0) (.slice none 0 0) [] (seenL of []) (lastF6 of []) := by
  have hL : B.heap.size < w1.heap.size := (hown.lt _ rfl).2
  have hZB : Z < B.heap.size := (Array.getElem?_eq_some_iff.1 hz).1
  have hz1 : w1.heap[Z]? = some (.cells #[.slice none 0 0, .slice none 0 0, .slice none 0 0] 26 (0, 0)) := (hgr.block _ hZB (by simp)).trans hz
  have hbA : Below w1.heap.size w1 (w1.alloc (.cells #[.slice none 0 0, .slice none 0 0, .slice (some ⟨B.heap.size, 0, none⟩) 6 6] 26)) := (Below.refl _ w1).alloc (Nat.le_refl _) _
  have hb1 : Below B.heap.size B w1 := ⟨hgr.os, hgr.tape, hgr.output, hgr.size, fun k hk => hgr.block k hk (by simp)⟩
  have hn : NumsAt w1 B.heap.size 6 fun _ => 0 := nums_start hown (made_zero 6)
  rw [last_zero of] at hn
  exact ⟨(hbA.block _ (by omega)).trans hz1, heap_alloc_new w1 _, World.ownsRow_nil _ _ _ _, World.ownsRow_nil _ _ _ _, hn.turn (Turns.of_below (F := fun _ => False) hbA) hL (fun hf => hf), hb1.trans (hbA.mono hb1.size), by omega, ⟨Nat.le_refl _, by simp; omega⟩, by omega, by omega, by omega, fun k hk => by simp [Value.ownBlock] at hk, fun k hk => by simp [Value.ownBlock] at hk, fun k hk => by simp [Value.ownBlock] at hk⟩
/-- What the deals say, in any later world. -/
def DealsIn (w : World) (ad : Option Addr) (b off : Nat) (ds : List Int) (of : Int → Dl) : Prop := ∀ W, Below w.heap.size w W → ∀ k, k < ds.length → ad = some ⟨b, off, none⟩ ∧ b < w.heap.size ∧ ∃ (sv : Value) (wad : Option Addr) (bw ofw wcp : Nat), IsOps W sv (of (ds.getD k 0)).seen ∧
  W.cell? ⟨b, off + k * 5, none⟩ = some (.int .i64 (ds.getD k 0)) ∧ W.cell? ⟨b, off + k * 5 + 3, none⟩ = some sv ∧ W.cell? ⟨b, off + k * 5 + 4, none⟩ = some (.slice wad (of (ds.getD k 0)).wrote.length wcp) ∧
  ∀ j, j < (of (ds.getD k 0)).wrote.length → wad = some ⟨bw, ofw, none⟩ ∧ bw < w.heap.size ∧ W.cell? ⟨bw, ofw + j, none⟩ = some (.int .i64 ((of (ds.getD k 0)).wrote.getD j 0))
theorem deals_in {w : World} {v : Value} {ds : List Int} {of : Int → Dl} (h : IsDeals w v ds of) : ∃ ad b off cap, v = .slice ad ds.length cap ∧ DealsIn w ad b off ds of := by
  obtain ⟨ad, b, off, cap, hv, ha, hbB, hc⟩ := h
  refine ⟨ad, b, off, cap, hv, fun W hW k hk => ?_⟩
  have hb : b < w.heap.size := by
    rcases hbB with h | h
    · exact h
    · subst h; simp at hk
  obtain ⟨sv, wv, hd, c0, c1, c2, c3, c4⟩ := hc k hk
  obtain ⟨wad, bw, ofw, wcp, hvw, haw, -, hbw, hcw⟩ := hd.wrote
  subst hvw
  refine ⟨ha (by omega), hb, sv, wad, bw, ofw, wcp, hd.seen.below hW (Nat.le_refl _), (hW.cell (p := ⟨b, off + k * 5, none⟩) hb).trans c0, (hW.cell (p := ⟨b, off + k * 5 + 3, none⟩) hb).trans c3, (hW.cell (p := ⟨b, off + k * 5 + 4, none⟩) hb).trans c4, fun j hj => ?_⟩
  have hb2 : bw < w.heap.size := by
    rcases hbw with h | h
    · exact h
    · rw [h] at hj; simp at hj
  exact ⟨haw (by omega), hb2, (hW.cell (p := ⟨bw, ofw + j, none⟩) hb2).trans (hcw j hj)⟩
theorem nums_six {w : World} {S : Nat} {of : Int → Dl} {ds : List Int} (h : NumsAt w S 6 (lastF6 of ds)) (hS : S < w.heap.size) : IsInts w (.slice (some ⟨S, 0, none⟩) 6 6) (lastL of ds) := by
  have h2 : NumsAt w S (lastL of ds).length (lastF6 of ds) := by rw [lastL_len]; exact h
  have h3 := h2.ints hS fun j hj => (lastL_at of ds (by rw [lastL_len] at hj; exact hj)).symm
  rw [lastL_len] at h3
  exact h3
theorem takeS {ds : List Int} {k : Nat} (h : k < ds.length) : ds.take (k + 1) = ds.take k ++ [ds.getD k 0] := by rw [List.take_succ_eq_append_getElem h]; simp [List.getD, List.getElem?_eq_getElem h]
/-- A block of a code, by its number. -/
def blkIn (n : Nat) : Code → Option Code
  | .block i c => if i = n then some (.block i c) else blkIn n c
  | .seq a b => match blkIn n a with
    | some c => some c
    | none => blkIn n b
  | .loop c => blkIn n c
  | .cond _ a b => match blkIn n a with
    | some c => some c
    | none => blkIn n b
  | .scope c => blkIn n c
  | _ => none
/-- The outcome is laid where it is told. -/
theorem out_fin {w B wr : World} {Z U L : Nat} {dv sv : Value} {ds : List Int} {se : List Op3} {of : Int → Dl} (h : OutAt B wr Z U L dv sv ds se (lastF6 of ds)) (hwB : Below w.heap.size w B) (hZ : w.heap.size ≤ Z) :
    (((wr.setCell ⟨Z, 0, none⟩ dv).setCell ⟨Z, 1, none⟩ sv).setCell ⟨Z, 2, none⟩ (.slice (some ⟨L, 0, none⟩) 6 6)).heap[Z]? = some (.cells #[dv, sv, .slice (some ⟨L, 0, none⟩) 6 6] 26 (0, 0)) ∧
    (IsInts (((wr.setCell ⟨Z, 0, none⟩ dv).setCell ⟨Z, 1, none⟩ sv).setCell ⟨Z, 2, none⟩ (.slice (some ⟨L, 0, none⟩) 6 6)) dv ds ∧ IsOps (((wr.setCell ⟨Z, 0, none⟩ dv).setCell ⟨Z, 1, none⟩ sv).setCell ⟨Z, 2, none⟩ (.slice (some ⟨L, 0, none⟩) 6 6)) sv se ∧ IsInts (((wr.setCell ⟨Z, 0, none⟩ dv).setCell ⟨Z, 1, none⟩ sv).setCell ⟨Z, 2, none⟩ (.slice (some ⟨L, 0, none⟩) 6 6)) (.slice (some ⟨L, 0, none⟩) 6 6) (lastL of ds) ∧ Below w.heap.size w (((wr.setCell ⟨Z, 0, none⟩ dv).setCell ⟨Z, 1, none⟩ sv).setCell ⟨Z, 2, none⟩ (.slice (some ⟨L, 0, none⟩) 6 6))) ∧
    (wr.cell? ⟨Z, 0, none⟩ = some (.slice none 0 0) ∧ wr.cell? ⟨Z, 1, none⟩ = some (.slice none 0 0) ∧ wr.cell? ⟨Z, 2, none⟩ = some (.slice none 0 0)) ∧ ∀ q, wr.frozen? ⟨Z, q, none⟩ = false := by
  have ht : Turns (fun j => j = Z) wr (((wr.setCell ⟨Z, 0, none⟩ dv).setCell ⟨Z, 1, none⟩ sv).setCell ⟨Z, 2, none⟩ (.slice (some ⟨L, 0, none⟩) 6 6)) := by
    refine Turns.setCell (Turns.setCell (Turns.setCell (Turns.refl _ wr) ?_ _) ?_ _) ?_ _ <;> exact .inl rfl
  have hbw : Below w.heap.size w wr := hwB.trans (h.old.mono hwB.size)
  refine ⟨by rw [block_set (block_set (block_set h.res))]; rfl, ⟨isInts_own (ht.own h.done fun j hj e => (h.dz j hj).1 e) rfl, isOps_row (ht.own h.seen fun j hj e => (h.sz j hj).1 e) rfl, nums_six (h.last.turn ht h.newL.2 (fun e => h.zl e.symm)) (Nat.lt_of_lt_of_le h.newL.2 ht.size), hbw.trans (ht.below hbw.size fun j hj e => by omega)⟩, ⟨?_, ?_, ?_⟩, fun q => by simp [World.frozen?, h.res]⟩ <;> rw [cell_of_row wr Z _ _ _ _ h.res] <;> rfl
set_option maxHeartbeats 16000000 in
set_option maxRecDepth 1000000 in
theorem out_blk {K : Act → World → Prop} {Q' : Exit → Act → World → Prop} {c1 c2 c3 c4 c5 c6 c7 c10 c11 c12 c13 c14 c15 c16 c17 c18 c19 c20 c21 c22 c23 c24 c25 c26 c27 c28 c29 c30 c31 c32 c33 c34 c35 c36 c37 c38 c39 c40 c41 c42 c43 c44 c45 c46 c47 c48 c49 c50 c51 c52 c53 c54 c55 c56 c57 c58 c59 c60 c61 c62 c63 c64 c65 c66 c67 c68 c69 c70 c71 c72 c73 c74 c75 c76 c77 c78 c79 c80 c81 c82 c83 c84 c85 c86 c87 c88 c89 c90 c91 : Value} {w W0 : World} {Z U L : Nat} {ds : List Int} {of : Int → Dl} {ad : Option Addr} {b off cap : Nat} (hin : DealsIn w ad b off ds of) (hl6 : ds.length ≤ 6) (hs40 : ∀ t, (of t).seen.length ≤ 40 ∧ (of t).wrote.length ≤ 40) (hwr : ∀ t, ∀ x ∈ (of t).wrote, 1 ≤ x ∧ x ≤ 6) (hst : OutAt w W0 Z U L (.slice none 0 0) (.slice none 0 0) [] (seenL of []) (lastF6 of []))
    (hK : ∀ (u9 u10 u39 u40 u41 u42 u43 u44 u45 u46 u47 u48 u49 u50 u51 u52 u53 u54 u55 u56 u57 u58 u59 u60 u61 u62 u63 u64 u65 u66 u67 u68 u69 u70 u71 u72 u73 u74 u75 u76 u77 u78 u79 u80 u81 u82 u83 u84 u85 u86 u87 u88 u89 u90 dv sv : Value) (X : World), OutAt w X Z U L dv sv ds (seenL of ds) (lastF6 of ds) → K ⟨#[.slice ad ds.length cap, c1, c2, c3, c4, c5, c6, c7, .pointer (some ⟨U, 0, none⟩), u9, u10, c11, c12, c13, c14, c15, c16, c17, c18, c19, c20, c21, c22, c23, c24, c25, c26, c27, c28, c29, c30, c31, c32, c33, c34, c35, c36, c37, c38, u39, u40, u41, u42, u43, u44, u45, u46, u47, u48, u49, u50, u51, u52, u53, u54, u55, u56, u57, u58, u59, u60, u61, u62, u63, u64, u65, u66, u67, u68, u69, u70, u71, u72, u73, u74, u75, u76, u77, u78, u79, u80, u81, u82, u83, u84, u85, u86, u87, u88, u89, u90, c91], []⟩ X) :
    Code.wp Tryd.prog ((Tryd.f18.body.bind (blkIn 4)).getD .skip) (Exit.then K Q') ⟨#[.slice ad ds.length cap, c1, c2, c3, c4, c5, c6, c7, .pointer (some ⟨U, 0, none⟩), .int .i64 0, c10, c11, c12, c13, c14, c15, c16, c17, c18, c19, c20, c21, c22, c23, c24, c25, c26, c27, c28, c29, c30, c31, c32, c33, c34, c35, c36, c37, c38, c39, c40, c41, c42, c43, c44, c45, c46, c47, c48, c49, c50, c51, c52, c53, c54, c55, c56, c57, c58, c59, c60, c61, c62, c63, c64, c65, c66, c67, c68, c69, c70, c71, c72, c73, c74, c75, c76, c77, c78, c79, c80, c81, c82, c83, c84, c85, c86, c87, c88, c89, c90, c91], []⟩ W0 := by
  conv => arg 2; whnf
  have HK := hid_u hK
  have HST2 := hid_u hst
  have HIN := hid_u hin
  have HSL : Hid (∀ k, k ≤ ds.length → (seenL of (ds.take k)).length ≤ k * 40) := fun k => by
    induction k with
    | zero => intro _; simp [seenL]
    | succ k ih =>
      intro hk
      have h1 := ih (by omega)
      rw [takeS (by omega), seenL_snoc, List.length_append]
      have := (hs40 (ds.getD k 0)).1
      omega
  have HW40 := hid_u hs40
  have HWR := hid_u hwr
  obtain ⟨j0, hj, hjz0, hjs0, hjy0⟩ := info_parts infoInt
  have HJ : Hid (Tryd.prog.info? 3 = some j0 ∧ j0.zero = some (.int .i64 0) ∧ j0.size = 1 ∧ j0.bytes = 8) := ⟨hj, hjz0, hjs0, hjy0⟩
  obtain ⟨i0, hi, hz0, hs0, hy0⟩ := info_parts infoSeenO
  have HI : Hid (Tryd.prog.info? 63 = some i0 ∧ i0.zero = some (.agg #[.int .i64 0, .int .i64 0, .int .i64 0]) ∧ i0.size = 3 ∧ i0.bytes = 24) := ⟨hi, hz0, hs0, hy0⟩
  clear hin hs40 hwr hst hK hj hjz0 hjs0 hjy0 hi hz0 hs0 hy0
  go_wp2_with fail
  go_loopw [9, 10] (fun v9 _ wr => ∃ (k : Nat) (dv sv : Value), k ≤ ds.length ∧ v9 = .int .i64 k ∧ OutAt w wr Z U L dv sv (ds.take k) (seenL of (ds.take k)) (lastF6 of (ds.take k))) (fun v9 _ _ => ds.length - (intOf v9).toNat)
  case atStart => exact ⟨0, _, _, Nat.zero_le _, rfl, HST2.out⟩
  case round =>
    obtain ⟨k, dv, sv, hk, rfl, hout⟩ := hrel
    have HOU := hid_u hout
    clear hout HST2
    by_cases hlt : k < ds.length
    · have hlt' : (k : Int) < (ds.length : Int) := by omega
      have hk0 : (0 : Int) ≤ (k : Int) := by omega
      have hkn : ¬ (k : Int) < 0 := by omega
      obtain ⟨rfl, hbw, su, wad, bw, ofw, wcp, hsu, c0, c3, c4, hcw⟩ := HIN.out wr HOU.out.old k hlt
      obtain ⟨t, ht⟩ : ∃ t, ds.getD k 0 = t := ⟨_, rfl⟩
      have HTE := hid_u ht
      rw [ht] at hsu c0 c4 hcw
      have hbR : b < wr.heap.size := Nat.lt_of_lt_of_le hbw HOU.out.old.size
      obtain ⟨u0, u1, u2⟩ := HOU.out.cells
      obtain ⟨adD, cD, eD, -⟩ := own_slice3 HOU.out.done
      have hnD : (ds.take k).length = k := by simp; omega
      rw [hnD] at eD
      subst eD
      have HV : Hid (wr.ownsRow w.heap.size 3 1 (.slice adD k cD) k ((ds.take k).map (Value.int .i64))) := by show World.ownsRow _ _ _ _ _ _ _; have := HOU.out.done; rw [hnD] at this; exact this
      have hUl := HOU.out.ltU
      have HSZ : Hid (w.heap.size ≤ wr.heap.size) := HOU.out.old.size
      have hu0 : ∀ ob : Obj, (wr.alloc ob).cell? ⟨U, 0, none⟩ = some (.slice adD k cD) := fun ob => by rw [World.cell?_alloc_lt _ _ ⟨U, 0, none⟩ hUl]; exact u0
      have HPT : Hid (∀ v2 w2 (ob : Obj), w2.ownsRow w.heap.size 3 1 v2 (k + 1) ((ds.take k).map (Value.int .i64) ++ [.int .i64 t]) → (wr.drew.alloc ob).grownBy w2 (Value.slice adD k cD).ownBlock → (∀ q, v2.ownBlock = some q → (Value.slice adD k cD).ownBlock = some q ∨ (wr.drew.alloc ob).heap.size ≤ q) → w2.cell? ⟨U, 0, none⟩ = some (.slice adD k cD) ∧ w2.frozen? ⟨U, 0, none⟩ = false ∧ OutAt w (w2.setCell ⟨U, 0, none⟩ v2) Z U L v2 sv (ds.take k ++ [t]) (seenL of (ds.take k)) (lastF6 of (ds.take k))) := fun v2 w2 ob g1 g2 g3 =>
        HOU.out.pushD (turn_grown g2) (by rw [hnD]; exact g1) (apart_later g3)
      clear hsu c3 c4 hcw hnD ht u1 u2
      go_upto_region 16 with (fail)
      go_cut [] from 39 to 90 (fun W1 => ∃ ad6 c6, OutAt w W1 Z U L (.slice ad6 (k + 1) c6) sv (ds.take k ++ [t]) (seenL of (ds.take k)) (lastF6 of (ds.take k)))
      case first =>
        refine wp_region_noPanic ?_
        go_region_law (refine step_append_apart rfl (.tmp 46) (.tmp 52) 23 rfl w.heap.size 3 j0 (.int .i64 0) 1 8 Tryd.underlying23 HJ.out.1 HJ.out.2.1 HJ.out.2.2.1 HJ.out.2.2.2 rfl (by decide) (.slice adD k cD) k ((ds.take k).map (Value.int .i64)) (by simp [Act.eval]) (HV.out.alloc _) ⟨wr.heap.size, 0, none⟩ 1 1 [.int .i64 t] (by simp [Act.eval]) rfl (cell_one_new _ _ _) (by simp [Value.oneCell']) (by unfold maxLen; omega) (by omega) (by have := HSZ.out; simp; omega) ?_; intro v2 w2 hown2 hgr2 hap2; obtain ⟨g0, g1, g2⟩ := HPT.out v2 w2 _ hown2 hgr2 hap2; clear hap2 hgr2; obtain ⟨ad6, c6, rfl, -⟩ := own_slice3 hown2; have HK2 := hid_u g2; clear g2 hown2)
        all_goals
          refine NoPanic.normal ?_
          go_wp2_with fail
          go_meet
          case rel => exact ⟨ad6, c6, HK2.out⟩
      case rest =>
        obtain ⟨ad6, c6, hk2⟩ := hcut
        have HK2 := hid_u hk2
        obtain ⟨W1, hW1⟩ : ∃ W : World, W = wc := ⟨_, rfl⟩
        subst hW1
        clear hk2 c0 u0 hu0 HPT HV HOU
        obtain ⟨-, -, su, wad, bw, ofw, wcp, hsu, c0, c3, c4, hcw⟩ := HIN.out W1 HK2.out.old k hlt
        rw [HTE.out] at hsu c0 c4 hcw
        have hbR1 : b < W1.heap.size := Nat.lt_of_lt_of_le hbw HK2.out.old.size
        obtain ⟨u0, u1, u2⟩ := HK2.out.cells
        obtain ⟨adS, cS, eS, -⟩ := own_slice3 HK2.out.seen
        obtain ⟨ns, hns⟩ : ∃ n, (seenL of (ds.take k)).length = n := ⟨_, rfl⟩
        have hns40 : ns ≤ 240 := by rw [← hns]; have := HSL.out k hk; omega
        have hts40 : (of t).seen.length ≤ 40 := (HW40.out t).1
        obtain ⟨nt, hnt⟩ : ∃ n, (of t).seen.length = n := ⟨_, rfl⟩
        rw [hnt] at hts40
        rw [hns] at eS
        subst eS
        have HV : Hid (W1.ownsRow w.heap.size 63 3 (.slice adS ns cS) ns (flat (seenL of (ds.take k)))) := by show World.ownsRow _ _ _ _ _ _ _; have := HK2.out.seen; rw [hns] at this; exact this
        have HSR : Hid (SrcAt W1 su nt 3 (flat (of t).seen)) := by show SrcAt _ _ _ _ _; rw [← hnt]; exact srcAt_ops hsu
        have HSZ1 : Hid (w.heap.size ≤ W1.heap.size) := HK2.out.old.size
        have HPT : Hid (∀ v2 w2, w2.ownsRow w.heap.size 63 3 v2 (ns + nt) (flat (seenL of (ds.take k)) ++ flat (of t).seen) → W1.drew.grownBy w2 (Value.slice adS ns cS).ownBlock → (∀ q, v2.ownBlock = some q → (Value.slice adS ns cS).ownBlock = some q ∨ W1.drew.heap.size ≤ q) → w2.cell? ⟨U, 1, none⟩ = some (.slice adS ns cS) ∧ w2.frozen? ⟨U, 1, none⟩ = false ∧ OutAt w (w2.setCell ⟨U, 1, none⟩ v2) Z U L (.slice ad6 (k + 1) c6) v2 (ds.take k ++ [t]) (seenL of (ds.take k) ++ (of t).seen) (lastF6 of (ds.take k))) := fun v2 w2 g1 g2 g3 =>
          HK2.out.pushS ((Turns.refl _ W1).drew.grown g2 fun j hj => .inl hj) (by rw [hns, hnt]; exact g1) g3
        obtain ⟨ads, cps, nsu, rfl⟩ : ∃ ads cps n, su = .slice ads n cps := by
          obtain ⟨a, _, _, c, h, _⟩ := hsu
          exact ⟨a, c, _, h⟩
        clear hsu c4 hcw u0 u2 hns hnt
        go_upto_region 17 with (fail)
        go_cut [] from 39 to 90 (fun W1 => ∃ ad7 n7 c7, OutAt w W1 Z U L (.slice ad6 (k + 1) c6) (.slice ad7 n7 c7) (ds.take k ++ [t]) (seenL of (ds.take k) ++ (of t).seen) (lastF6 of (ds.take k)))
        case first =>
          refine wp_region_noPanic ?_
          go_region_law (refine step_append_src rfl (.tmp 56) (.tmp 61) 24 rfl w.heap.size 63 i0 (.agg #[.int .i64 0, .int .i64 0, .int .i64 0]) 3 24 Tryd.underlying24 HI.out.1 HI.out.2.1 HI.out.2.2.1 HI.out.2.2.2 rfl (by decide) (.slice adS ns cS) ns (flat (seenL of (ds.take k))) (by simp [Act.eval]) HV.out (.slice ads nsu cps) nt (flat (of t).seen) (by simp [Act.eval]) HSR.out (flat_one _) (by unfold maxLen; omega) (by omega) (by have := HSZ1.out; simp; omega) ?_; intro v2 w2 hown2 hgr2 hap2; obtain ⟨g0, g1, g2⟩ := HPT.out v2 w2 hown2 hgr2 hap2; clear hap2 hgr2; obtain ⟨ad7, c7, rfl, -⟩ := own_slice3 hown2; have HK3 := hid_u g2; clear g2 hown2)
          all_goals
            refine NoPanic.normal ?_
            go_wp2_with fail
            go_meet
            case rel => exact ⟨ad7, _, c7, HK3.out⟩
        case rest =>
          obtain ⟨ad7, n7, c7, hk3⟩ := hcut
          have HK3 := hid_u hk3
          obtain ⟨W2, hW2⟩ : ∃ W : World, W = wc := ⟨_, rfl⟩
          subst hW2
          have HL0 : Hid (OutAt w W2 Z U L (.slice ad6 (k + 1) c6) (.slice ad7 n7 c7) (ds.take k ++ [t]) (seenL of (ds.take k) ++ (of t).seen) (lastJ of (ds.take k) t ((of t).wrote.take 0))) := by show OutAt _ _ _ _ _ _ _ _ _ _; rw [List.take_zero, lastJ_nil]; exact hk3
          obtain ⟨nw, hnw⟩ : ∃ n, (of t).wrote.length = n := ⟨_, rfl⟩
          have hnw40 : nw ≤ 40 := by rw [← hnw]; exact (HW40.out t).2
          have HNW := hid_u hnw
          clear hk3 hnw c0 c3 u1 HPT HV HSR HK2
          go_wp2_with fail
          go_loopw [10] (fun v10 wr => ∃ j : Nat, j ≤ nw ∧ v10 = .int .i64 j ∧ OutAt w wr Z U L (.slice ad6 (k + 1) c6) (.slice ad7 n7 c7) (ds.take k ++ [t]) (seenL of (ds.take k) ++ (of t).seen) (lastJ of (ds.take k) t ((of t).wrote.take j))) (fun v10 _ => nw - (intOf v10).toNat)
          case atStart => exact ⟨0, Nat.zero_le _, rfl, HL0.out⟩
          case round =>
            obtain ⟨j, hj, rfl, hjo⟩ := hrel
            have HJO := hid_u hjo
            obtain ⟨-, -, su, wad, bw, ofw, wcp, -, c0, -, c4, hcw⟩ := HIN.out wr hjo.old k hlt
            rw [HTE.out] at c0 c4 hcw
            rw [HNW.out] at c4 hcw
            clear hjo
            by_cases hlt2 : j < nw
            · have hlt2' : (j : Int) < (nw : Int) := by omega
              have hj0 : (0 : Int) ≤ (j : Int) := by omega
              have hjn : ¬ (j : Int) < 0 := by omega
              obtain ⟨rfl, hbw2, cj⟩ := hcw j hlt2
              have hit := HWR.out t ((of t).wrote.getD j 0) (by rw [List.getD_eq_getElem?_getD, List.getElem?_eq_getElem (by rw [HNW.out]; exact hlt2)]; exact List.getElem_mem _)
              obtain ⟨m, hm⟩ : ∃ m : Nat, (of t).wrote.getD j 0 = (m : Int) + 1 := ⟨((of t).wrote.getD j 0 - 1).toNat, by omega⟩
              rw [hm] at cj hit
              have hm6 : m < 6 := by omega
              have hm0 : (0 : Int) ≤ (m : Int) := by omega
              have hmn : ¬ (m : Int) < 0 := by omega
              have hmb : (m : Int) < 6 := by omega
              have hsb : (m : Int) + 1 - 1 = (m : Int) := by omega
              have hwp : IntKind.i64.wrap (m : Int) = (m : Int) := by rw [IntKind.wrap_i64]; omega
              obtain ⟨u0, u1, u2⟩ := HJO.out.cells
              obtain ⟨l0, l1⟩ := HJO.out.last m hm6
              have HNJ : Hid (lastJ of (ds.take k) t ((of t).wrote.take (j + 1)) = fun i => if i = m then t else lastJ of (ds.take k) t ((of t).wrote.take j) i) := by
                show _ = _
                rw [takeS (by rw [HNW.out]; exact hlt2), hm, lastJ_snoc]
              have hUR := HJO.out.ltU
              have hbR2 : b < wr.heap.size := Nat.lt_of_lt_of_le hbw HJO.out.old.size
              have hbR3 : bw < wr.heap.size := Nat.lt_of_lt_of_le hbw2 HJO.out.old.size
              clear hm hit hcw u0 u1
              go_upto_region 21 with (fail)
              refine wp_region_noPanic ?_
              go_region
              all_goals
                have HC : Hid (OutAt w (wr.setCell ⟨L, m, none⟩ (.int .i64 t)).drew Z U L (.slice ad6 (k + 1) c6) (.slice ad7 n7 c7) (ds.take k ++ [t]) (seenL of (ds.take k) ++ (of t).seen) (lastJ of (ds.take k) t ((of t).wrote.take (j + 1)))) := by
                  show OutAt _ _ _ _ _ _ _ _ _ _
                  rw [HNJ.out]
                  exact (HJO.out.put hm6 t).later (Below.refl _ _).drew
                refine NoPanic.normal ?_
                go_wp2_with fail
                go_roundw
                case rel => exact ⟨j + 1, by omega, by go_num, HC.out⟩
                case measure => simp [intOf]; omega
            · have hlt2' : ¬ (j : Int) < (nw : Int) := by omega
              obtain rfl : j = nw := by omega
              have HFN : Hid (OutAt w wr Z U L (.slice ad6 (k + 1) c6) (.slice ad7 n7 c7) (ds.take (k + 1)) (seenL of (ds.take (k + 1))) (lastF6 of (ds.take (k + 1)))) := by
                have h1 := HJO.out
                rw [← HNW.out, List.take_length, lastJ_all] at h1
                show OutAt _ _ _ _ _ _ _ _ _ _
                rw [takeS hlt, HTE.out, seenL_snoc]
                exact h1
              go_wp2_with fail
              go_roundw
              case rel => exact ⟨k + 1, _, _, by omega, by go_num, HFN.out⟩
              case measure => simp [intOf]; omega
    · have hlt' : ¬ (k : Int) < (ds.length : Int) := by omega
      obtain rfl : k = ds.length := by omega
      rw [List.take_length] at HOU
      go_wp2_with fail
      exact HK.out _ _ _ _ _ _ _ _ _ _ _ _ _ _ _ _ _ _ _ _ _ _ _ _ _ _ _ _ _ _ _ _ _ _ _ _ _ _ _ _ _ _ _ _ _ _ _ _ _ _ _ _ _ _ _ _ _ HOU.out
set_option maxHeartbeats 16000000 in
set_option maxRecDepth 1000000 in
theorem refOut_any (ds : List Int) (of : Int → Dl) (v : Value) (w : World) (hI : IsDeals w v ds of) (hl6 : ds.length ≤ 6) (hs40 : ∀ t, (of t).seen.length ≤ 40 ∧ (of t).wrote.length ≤ 40) (hwr : ∀ t, ∀ x ∈ (of t).wrote, 1 ≤ x ∧ x ≤ 6) :
    Calls Tryd.prog 18 #[v, .bool false] w fun e w' => ∃ a1 a2 a3, e = .returned (.agg #[a1, a2, a3]) ∧ IsInts w' a1 ds ∧ IsOps w' a2 (seenL of ds) ∧ IsInts w' a3 (lastL of ds) ∧ Below w.heap.size w w' := by
  obtain ⟨B, hBe⟩ : ∃ B, B = w.alloc (.cells #[.slice none 0 0, .slice none 0 0, .slice none 0 0] 26) := ⟨_, rfl⟩
  have hbB : Below w.heap.size w B := by rw [hBe]; exact (Below.refl _ w).alloc (Nat.le_refl _) _
  obtain ⟨ad, b, off, cap, hve, hin⟩ := deals_in (hI.below hbB (Nat.le_refl _))
  subst hve
  have hz : B.heap[w.heap.size]? = some (.cells #[.slice none 0 0, .slice none 0 0, .slice none 0 0] 26 (0, 0)) := by rw [hBe]; exact heap_alloc_new w _
  have HIN := hid_u hin
  have HW40 := hid_u hs40
  have HWR := hid_u hwr
  have HBB := hid_u hbB
  have HZZ := hid_u hz
  obtain ⟨j0, hj, hjz0, hjs0, hjy0⟩ := info_parts infoInt
  have HJ : Hid (Tryd.prog.info? 3 = some j0 ∧ j0.zero = some (.int .i64 0) ∧ j0.size = 1 ∧ j0.bytes = 8) := ⟨hj, hjz0, hjs0, hjy0⟩
  have HZW : Hid (w.heap.size ≤ w.heap.size) := Nat.le_refl _
  clear hin hs40 hwr hI hj hjz0 hjs0 hjy0 hbB hz
  go_enter Tryd.func18, Tryd.ntmps18
  go_upto_region 12 with (fail)
  rw [← hBe]
  obtain ⟨Z, hZ⟩ : ∃ Z, Z = w.heap.size := ⟨_, rfl⟩
  rw [← hZ] at HZZ ⊢
  replace HZW : Hid (w.heap.size ≤ Z) := by show _ ≤ _; omega
  clear hBe hZ
  go_upto_region 13 with (at_make; refine wpList_make_full _ rfl (.const (.int .i64 6)) (.const (.int .i64 6)) 23 rfl B.heap.size 3 j0 (.int .i64 0) 1 Tryd.underlying23 HJ.out.1 HJ.out.2.1 HJ.out.2.2.1 .i64 .i64 6 6 6 rfl rfl rfl rfl (by rw [HJ.out.2.2.2]; omega) (by unfold maxLen; omega) (Nat.le_refl _) ?_; intro w1 hown1 hgr1)
  have HST := hid_u (out_start (of := of) HZZ.out hown1 hgr1)
  obtain ⟨W0, hW0⟩ : ∃ W, W = w1.alloc (.cells #[.slice none 0 0, .slice none 0 0, .slice (some ⟨B.heap.size, 0, none⟩) 6 6] 26) := ⟨_, rfl⟩
  rw [← hW0] at HST ⊢
  obtain ⟨L, hL⟩ : ∃ L, L = B.heap.size := ⟨_, rfl⟩
  obtain ⟨U, hU⟩ : ∃ U, U = w1.heap.size := ⟨_, rfl⟩
  rw [← hL, ← hU] at HST ⊢
  clear hown1 hgr1 hW0 hL hU
  go_upto_block 4 with (fail)
  refine out_blk HIN.out hl6 HW40.out HWR.out HST.out ?_
  intro u9 u10 u39 u40 u41 u42 u43 u44 u45 u46 u47 u48 u49 u50 u51 u52 u53 u54 u55 u56 u57 u58 u59 u60 u61 u62 u63 u64 u65 u66 u67 u68 u69 u70 u71 u72 u73 u74 u75 u76 u77 u78 u79 u80 u81 u82 u83 u84 u85 u86 u87 u88 u89 u90 dv sv X hX
  have HOU := hid_u hX
  clear hX
  obtain ⟨HRE0, HFI0, ⟨z0, z1, z2⟩, y⟩ := out_fin HOU.out HBB.out HZW.out
  have HRE := hid_u HRE0
  have HFI := hid_u HFI0
  obtain ⟨u0, u1, u2⟩ := HOU.out.cells
  have y0 := y 0
  have y1 := y 1
  have y2 := y 2
  obtain ⟨adD, cD, eD, -⟩ := own_slice3 HOU.out.done
  obtain ⟨adS, cS, eS, -⟩ := own_slice3 HOU.out.seen
  subst eD
  subst eS
  clear HRE0 HFI0 y
  go_wp2_with fail
  refine bodyPost_ret (v := .agg #[.slice adD ds.length cD, .slice adS (seenL of ds).length cS, .slice (some ⟨L, 0, none⟩) 6 6]) (results_cell_row Tryd.results18 _ _ Z 26 #[.slice adD ds.length cD, .slice adS (seenL of ds).length cS, .slice (some ⟨L, 0, none⟩) 6 6] (0, 0) _ rfl HRE.out Tryd.underlying26 rfl outcome_info) rfl ⟨_, _, _, rfl, HFI.out.1, HFI.out.2.1, HFI.out.2.2.1, HFI.out.2.2.2⟩
theorem refOutC : RefOutC false := fun ds of v w hI hn hr hs hw => refOut_any ds of v w hI (six_len hn hr) hs hw
end Go.Proofs.YtccjognnehoodafDoor
