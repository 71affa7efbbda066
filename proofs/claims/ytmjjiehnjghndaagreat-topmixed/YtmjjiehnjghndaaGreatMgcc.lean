/-
  PROVED HERE: strict.lane's method inOrder, over a run in memory: the deals that were aborted, in order, in whichever order the map tells them.
  Conditions: no deal was aborted twice.
  PROVED HERE: package strict keeps what it is asked (StrictC): of any ops, by any way, Run tells what chapter 9, as a function on lists, tells. Old memory stays as it was.
  Conditions: none.
-/
import Derived.Test.YtmjjiehnjghndaaGreatMgbv
import Derived.Test.YtmjjiehnjghndaaGreatMgcb
import Derived.Test.YtmjjiehnjghndaaGreatMgau
namespace Go.Proofs.YtmjjiehnjghndaaGreat
open Go.RowKit
open Go.Maps (Keyed)

set_option maxHeartbeats 8000000 in
set_option maxRecDepth 100000 in
theorem inOrder_run {R : Nat} {way : Int} {r : Runr} {g : Int → Option Value} {c : Lay} {P : Int → Option Op3} {w : World} (h : LaneAt w R way r g c) (hf : Fits r P) (hl : r.vict.length ≤ 6) :
    Calls Tryz.prog 19 #[.pointer (some ⟨R, 0, none⟩)] w fun e w' => ∃ ad n q, e = .returned (.slice ad n q) ∧ IsInts w' (.slice ad n q) r.vict ∧ Below w.heap.size w w' := by
  obtain ⟨vc, hvc⟩ : ∃ vc, r.vict = vc := ⟨_, rfl⟩
  have HN : Hid (vc.Pairwise (· ≠ ·)) := by show List.Pairwise _ _; rw [← hvc]; exact hf.nodup
  have c3 := h.c3
  have HL := hid_l h
  have HM : Hid (∀ W, Below w.heap.size w W → MapIs W c.A (victF vc) vc.length) := fun W hW => by have := (h.below hW).outs; rw [hvc] at this; exact this
  have hRl := h.lt
  rw [hvc] at hl ⊢
  obtain ⟨i0, hi, hz0, hs0, hy0⟩ := info_parts infoInt
  have HI : Hid (Tryz.prog.info? 3 = some i0 ∧ i0.zero = some (.int .i64 0) ∧ i0.size = 1 ∧ i0.bytes = 8) := ⟨hi, hz0, hs0, hy0⟩
  obtain ⟨m, hm⟩ : ∃ m, vc.length = m := ⟨_, rfl⟩
  have HMM := hid_l hm
  rw [hm] at hl
  have hm0 : (0 : Int) ≤ (m : Int) := by omega
  clear hi hz0 hs0 hy0 hf hvc h hm
  go_enter Tryz.func19, Tryz.ntmps19
  go_upto_region 2 with (first | (at_len; refine wp_len _ rfl (.tmp 9) 50 rfl 3 Tryz.underlying50 c.A m (victF vc) rfl (HMM.out ▸ HM.out _ (Below.refl _ _)) ?_) | (at_make; refine wpList_make_full _ rfl (.tmp 10) (.tmp 10) 28 rfl w.heap.size 3 i0 (.int .i64 0) 1 Tryz.underlying28 HI.out.1 HI.out.2.1 HI.out.2.2.1 .i64 .i64 (m : Int) (m : Int) m rfl rfl rfl rfl (by rw [HI.out.2.2.2]; omega) (by unfold maxLen; omega) (Nat.le_refl _) ?_; intro w1 hown1 hgr1))
  have HNU : Hid (NumsAt w1 w.heap.size m fun _ => 0) := nums_start hown1 (made_zero m)
  have HB1 : Hid (Below w.heap.size w w1) := ⟨hgr1.os, hgr1.tape, hgr1.output, hgr1.size, fun k hk => hgr1.block k hk (by simp)⟩
  have hS1 : w.heap.size < w1.heap.size := (hown1.lt w.heap.size rfl).2
  obtain ⟨D, hD1, hD2, hD3, hD4, -⟩ := HM.out w1 HB1.out
  have HD1 := hid_l hD1
  have HD3 := hid_l (And.intro hD3 hD4)
  obtain ⟨S, hS⟩ : ∃ S, S = w.heap.size := ⟨_, rfl⟩
  have k3 : w1.cell? ⟨R, 3, none⟩ = some (.map (some c.A)) := (HL.out.below HB1.out).c3
  have hAS : c.A ≠ S := by have := (HM.out w (Below.refl _ _)).lt; omega
  have hRS : R ≠ S := by omega
  have HSE := hid_l hS
  rw [← hS] at HNU hS1 ⊢
  clear hown1 hgr1 hD1 hD3 hD4 hS c3
  go_wp2_with (at_range; refine wpList_range_own _ rfl (.tmp 15) 50 rfl 3 3 KI Tryz.underlying50 heldElem c.A vc.length D rfl HD1.out ?_; intro w2 hrg2 hg2 hs2)
  have ht2 : Turns (fun _ => False) w1 w2 := (Turns.refl _ w1).grown hg2 fun k hk => by cases hk
  have HL2 : Hid (Laid vc (Maps.has D) fun _ => 0) := fun j hj hl => by
    exfalso
    have hmem : vc.getD j 0 ∈ vc := by simp [List.getD, hj]
    have hsm : (victF vc (vc.getD j 0)).isSome = true := by rw [victF_some, decide_eq_true hmem]
    have hr := HM.out w (Below.refl _ _)
    obtain ⟨_, _, _, _, _, h5⟩ := hr
    obtain ⟨a1, a6⟩ := h5 _ hsm
    rw [HD3.out.1 _ (wf_deal a1 a6), hsm] at hl
    cases hl
  have HST : Hid (∃ (left : Lit → Bool) (cnt : Nat) (vs : Nat → Int), w2.ranges Tryz.prog 3 heldElem c.A w1.heap.size vc.length D left cnt ∧ NumsAt w2 S m vs ∧ Laid vc left vs ∧ Below w.heap.size w w2 ∧ S < w2.heap.size) :=
    ⟨_, _, _, hrg2, HNU.out.turn ht2 hS1 (fun hf => hf), HL2.out, HB1.out.trans ((ht2.below (Nat.le_refl _) fun _ _ hf => hf).mono HB1.out.size), Nat.lt_of_lt_of_le hS1 ht2.size⟩
  have hSI : S ≠ w1.heap.size := by omega
  have hSI2 : S < w1.heap.size := by omega
  obtain ⟨I, hI⟩ : ∃ I, I = w1.heap.size := ⟨_, rfl⟩
  rw [← hI] at HST hSI hSI2 ⊢
  clear hrg2 hg2 hs2 ht2 HL2 k3 hI
  go_frame
  go_loopw [4] (fun _ wr => ∃ (left : Lit → Bool) (cnt : Nat) (vs : Nat → Int), wr.ranges Tryz.prog 3 heldElem c.A I vc.length D left cnt ∧ NumsAt wr S m vs ∧ Laid vc left vs ∧ Below w.heap.size w wr ∧ S < wr.heap.size) (fun _ wr => wr.rangeLeft c.A I)
  case atStart => exact HST.out
  case round =>
    obtain ⟨left, cnt, vs, hrg, hnu, hlaid, hbel, hSr⟩ := hrel
    have HRG := hid_l hrg
    have HNR := hid_l hnu
    have HLA := hid_l hlaid
    have HBE := hid_l hbel
    clear hrg hnu hlaid hbel HST
    go_wp2_with (at_next; refine wp_next_outs _ rfl (.tmp 16) rfl c.A I vc.length D left cnt vc rfl HRG.out HD3.out.1 HD3.out.2 ?_ ?_)
    · intro hc0 hl0
      have HEN : Hid (IsInts wr (.slice (some ⟨S, 0, none⟩) m m) vc) := by
        have h1 := HNR.out
        rw [← HMM.out] at h1 ⊢
        exact h1.ints hSr fun j hj => HLA.out j hj (hl0 _)
      clear hc0 hl0
      go_wp2_with fail
      go_ret
      exact ⟨_, _, _, rfl, HEN.out, HBE.out⟩
    · intro x k w3 cnt3 hxk hrg3 hlt3 hg3 hs3 hen3
      have hkm : k < m := by rw [← HMM.out]; exact (List.getElem?_eq_some_iff.1 hxk).1
      have ht3 : Turns (fun j => j = I) wr w3 := (Turns.refl _ wr).grown hg3 fun j hj => .inl (Option.some.inj hj).symm
      have hn3 := HNR.out.turn ht3 hSr hSI
      obtain ⟨y0, y1⟩ := hn3 k hkm
      have HN3 := hid_l hn3
      have HR3 := hid_l hrg3
      have HL3 := hid_l (HLA.out.step HN.out hxk)
      have HB3 : Hid (Below w.heap.size w w3) := by
        have h1 : ¬ I < w.heap.size := by have := HSE.out; omega
        exact HBE.out.trans (ht3.below HBE.out.size fun j hj e => h1 (e ▸ hj))
      have hS3 : S < w3.heap.size := Nat.lt_of_lt_of_le hSr ht3.size
      have hk1 : (k : Int) < (m : Int) := by omega
      have hk0 : (0 : Int) ≤ (k : Int) := by omega
      have hkn : ¬ (k : Int) < 0 := by omega
      have HLE := hid_l HRG.out.left_eq
      clear hxk hrg3 ht3 hn3 hg3
      go_wp2_with fail
      go_roundw
      case rel =>
        have hkeep : (w3.setCell ⟨S, k, none⟩ (.int .i64 x)).ranges Tryz.prog 3 heldElem c.A I vc.length D (fun z => left z && !z.sameKey (Lit.int .i64 x)) cnt3 := HR3.out.kept (row := some S) ⟨rfl, rfl, rfl, by simp, fun i hi hne => by rw [Below.heap_setCell _ _ _ _ (fun e => hne (by rw [e]))]⟩ (fun e => hAS (Option.some.inj e)) (fun e => hSI (Option.some.inj e).symm)
        exact ⟨_, cnt3, _, hkeep, HN3.out.set hkm x, HL3.out, HB3.out.setCell (by rw [HSE.out]; exact Nat.le_refl _) _, by simpa using hS3⟩
      case measure =>
        have hkeep : (w3.setCell ⟨S, k, none⟩ (.int .i64 x)).ranges Tryz.prog 3 heldElem c.A I vc.length D (fun z => left z && !z.sameKey (Lit.int .i64 x)) cnt3 := HR3.out.kept (row := some S) ⟨rfl, rfl, rfl, by simp, fun i hi hne => by rw [Below.heap_setCell _ _ _ _ (fun e => hne (by rw [e]))]⟩ (fun e => hAS (Option.some.inj e)) (fun e => hSI (Option.some.inj e).symm)
        rw [hkeep.left_eq, HLE.out]
        exact hlt3
end Go.Proofs.YtmjjiehnjghndaaGreat

namespace Go.Proofs.YtmjjiehnjghndaaGreat
open Go.RowKit

theorem lane_made {w w1 : World} {T : Nat} {F : Nat → Prop} (way : Int) (hp : PTab w1 T F ([], [])) (hb : Below w.heap.size w w1) (hF : ∀ k, F k → w.heap.size ≤ k) :
    ∃ c, LaneAt ((((w1.alloc (.map #[] 0)).alloc (.map #[] 0)).alloc (.map #[] 0)).alloc (.cells #[.int .i64 way, .pointer (some ⟨T, 0, none⟩), .slice none 0 0, .map (some w1.heap.size), .map (some (w1.heap.size + 1)), .map (some (w1.heap.size + 2))] 54)) (w1.heap.size + 3) way run0 (wm run0 noP) c ∧ Below w.heap.size w ((((w1.alloc (.map #[] 0)).alloc (.map #[] 0)).alloc (.map #[] 0)).alloc (.cells #[.int .i64 way, .pointer (some ⟨T, 0, none⟩), .slice none 0 0, .map (some w1.heap.size), .map (some (w1.heap.size + 1)), .map (some (w1.heap.size + 2))] 54)) ∧ ∀ k, feet (w1.heap.size + 3) c k → w.heap.size ≤ k := by
  obtain ⟨W1, hW1⟩ : ∃ W, W = w1.alloc (.map #[] 0) := ⟨_, rfl⟩
  obtain ⟨W2, hW2⟩ : ∃ W, W = W1.alloc (.map #[] 0) := ⟨_, rfl⟩
  obtain ⟨W3, hW3⟩ : ∃ W, W = W2.alloc (.map #[] 0) := ⟨_, rfl⟩
  obtain ⟨W4, hW4⟩ : ∃ W, W = W3.alloc (.cells #[.int .i64 way, .pointer (some ⟨T, 0, none⟩), .slice none 0 0, .map (some w1.heap.size), .map (some (w1.heap.size + 1)), .map (some (w1.heap.size + 2))] 54) := ⟨_, rfl⟩
  have s1 : W1.heap.size = w1.heap.size + 1 := by rw [hW1]; simp
  have s2 : W2.heap.size = w1.heap.size + 2 := by rw [hW2]; simp [s1]
  have s3 : W3.heap.size = w1.heap.size + 3 := by rw [hW3]; simp [s2]
  have t1 : Turns (fun _ => False) w1 W1 := by rw [hW1]; exact (Turns.refl _ w1).alloc _
  have t2 : Turns (fun _ => False) W1 W2 := by rw [hW2]; exact (Turns.refl _ W1).alloc _
  have t3 : Turns (fun _ => False) W2 W3 := by rw [hW3]; exact (Turns.refl _ W2).alloc _
  have t4 : Turns (fun _ => False) W3 W4 := by rw [hW4]; exact (Turns.refl _ W3).alloc _
  have m1 : MapIs W1 w1.heap.size (fun _ => none) 0 := by rw [hW1]; exact mapIs_made w1
  have m2 : MapIs W2 (w1.heap.size + 1) (fun _ => none) 0 := by rw [hW2, ← s1]; exact mapIs_made W1
  have m3 : MapIs W3 (w1.heap.size + 2) (fun _ => none) 0 := by rw [hW3, ← s2]; exact mapIs_made W2
  have hFl := fun k hk => locksQ.lt hp k hk
  have hb4 : Below w1.heap.size w1 W4 := ((((t1.trans t2 fun _ _ hf => hf).trans t3 fun _ _ hf => hf).trans t4 fun _ _ hf => hf)).below (Nat.le_refl _) fun _ _ hf => hf
  rw [← hW1, ← hW2, ← hW3, ← hW4]
  refine ⟨⟨T, w1.heap.size, w1.heap.size + 1, w1.heap.size + 2, F, .slice none 0 0, fun _ => none⟩, ⟨?_, ?_, World.ownsRow_nil _ _ _ _, ?_, ⟨0, ?_⟩, ⟨0, m3.turn t4 (fun hf => hf)⟩, fun d _ => tail_nil _ _ _ _, fun i j k hi hj hij h1 h2 => ?_⟩, hb.trans (hb4.mono hb.size), fun k hk => ?_⟩
  · rw [hW4, ← s3]
    exact heap_alloc_new W3 _
  · exact locksQ.below hp hb4
  · exact ((m1.turn t2 (fun hf => hf)).turn t3 (fun hf => hf)).turn t4 (fun hf => hf)
  · exact MapIs.congr (((m2.turn t3 (fun hf => hf)).turn t4 (fun hf => hf))) fun d => by unfold wm; rw [if_neg (by simp [run0])]
  · have hone : ∀ i k, i < 13 → part (w1.heap.size + 3) ⟨T, w1.heap.size, w1.heap.size + 1, w1.heap.size + 2, F, .slice none 0 0, fun _ => none⟩ i k → (i = 0 ∧ k = w1.heap.size + 3) ∨ (i = 1 ∧ k < w1.heap.size) ∨ (i = 3 ∧ k = w1.heap.size) ∨ (i = 4 ∧ k = w1.heap.size + 1) ∨ (i = 5 ∧ k = w1.heap.size + 2) := fun i k hi hk => by
      match i, hk with
      | 0, hk => exact .inl ⟨rfl, hk⟩
      | 1, hk => exact .inr (.inl ⟨rfl, hFl k hk⟩)
      | 2, hk => simp [part, Value.ownBlock] at hk
      | 3, hk => exact .inr (.inr (.inl ⟨rfl, hk⟩))
      | 4, hk => exact .inr (.inr (.inr (.inl ⟨rfl, hk⟩)))
      | 5, hk => exact .inr (.inr (.inr (.inr ⟨rfl, hk⟩)))
      | d + 6, hk => simp [part, Lay.bv, Value.ownBlock] at hk
    have a1 := hone i k hi h1
    have a2 := hone j k hj h2
    omega
  · obtain ⟨i, hi, hk⟩ := hk
    have hs := hb.size
    match i, hk with
    | 0, hk => rw [show k = w1.heap.size + 3 from hk]; omega
    | 1, hk => exact hF k hk
    | 2, hk => simp [part, Value.ownBlock] at hk
    | 3, hk => rw [show k = w1.heap.size from hk]; omega
    | 4, hk => rw [show k = w1.heap.size + 1 from hk]; omega
    | 5, hk => rw [show k = w1.heap.size + 2 from hk]; omega
    | d + 6, hk => simp [part, Lay.bv, Value.ownBlock] at hk
theorem newLane_run (way : Int) (w : World) :
    Calls Tryz.prog 17 #[.int .i64 way] w fun e w' => ∃ R, e = .returned (.pointer (some ⟨R, 0, none⟩)) ∧ ∃ c, LaneAt w' R way run0 (wm run0 noP) c ∧ Below w.heap.size w w' ∧ ∀ k, feet R c k → w.heap.size ≤ k := by
  have hmm := @run_makeMap Tryz.prog
  go_enter Tryz.func17, Tryz.ntmps17
  go_wp2_with fail
  refine (locksQ.new w).mono ?_
  rintro e w1 ⟨T, F, rfl, hp, hb, hF⟩
  have HM := hid_l (lane_made way hp hb hF)
  clear hp hb hF
  go_wp2_with fail
  go_ret
  exact ⟨_, rfl, HM.out⟩
/-- A run that has been made since a world. -/
structure OwnLane (w0 w : World) (R : Nat) (way : Int) (r : Runr) (c : Lay) : Prop where
  run : LaneAt w R way r (wm r noP) c
  old : Below w0.heap.size w0 w
  feet : ∀ k, feet R c k → w0.heap.size ≤ k
section
variable {w0 w w1 : World} {R : Nat} {way : Int} {r r1 : Runr} {c : Lay}
theorem OwnLane.below (h : OwnLane w0 w R way r c) (hb : Below w.heap.size w w1) : OwnLane w0 w1 R way r c := ⟨h.run.below hb, h.old.trans (hb.mono h.old.size), h.feet⟩
theorem OwnLane.step (h : OwnLane w0 w R way r c) (hs : LaneStep w w1 R way c r1 (wm r1 noP)) : ∃ c1, OwnLane w0 w1 R way r1 c1 := by
  obtain ⟨c1, h1, h2, h3⟩ := hs
  refine ⟨c1, h1, h.old.trans (h2.below h.old.size fun k hk hf => ?_), fun k hk => ?_⟩
  · have := h.feet k hf; omega
  · rcases h3 k hk with h4 | h4
    · exact h.feet k h4
    · exact Nat.le_trans h.old.size h4
end
theorem strictP_sum (way : Int) (l : List Op3) (hop : ∀ o ∈ l, isOpB o = true) : ∀ k, k ≤ l.length → sum6 (strictR way (l.take k)).behind ≤ k := by
  intro k
  induction k with
  | zero => intro _; exact Nat.le_refl _
  | succ k ih =>
    intro hk
    have h1 := ih (by omega)
    have hg := (strict_ok way l hop k (by omega)).1
    have e : strictR way (l.take (k + 1)) = comeR way (strictR way (l.take k)) l[k] := by
      unfold strictR
      rw [List.take_succ_eq_append_getElem (by omega), List.foldl_append]
      rfl
    have ho := hop _ (List.getElem_mem (show k < l.length by omega))
    obtain ⟨a1, a6⟩ := isOp_range ho
    rw [e]
    unfold comeR
    split
    · omega
    · rename_i hout
      split
      · have := sum_push (f := (strictR way (l.take k)).behind) l[k] a1 a6
        show sum6 (setF _ _ _) ≤ k + 1
        omega
      · rename_i hw
        have hs := doN_ok way 41 _ l[k] hg (by simpa using hout) (by simpa using hw) ho
        have := sum_mono hs.less
        omega
theorem strictP_snoc (way : Int) {l : List Op3} {k : Nat} (hk : k < l.length) : strictR way (l.take (k + 1)) = comeR way (strictR way (l.take k)) (opAt l k) := by
  unfold strictR
  rw [takeL_fold _ _ hk]
set_option maxHeartbeats 16000000 in
set_option maxRecDepth 100000 in
theorem strictC : StrictC := by
  intro l v way w hI
  have HI0 := hid_l hI
  by_cases hc : (chk l).2 = 0
  · have HCK := hid_l (check_ok l v w hI hc)
    have hop : ∀ o ∈ l, isOpB o = true := chk_each hc
    have hlen := chk_len hc
    obtain ⟨ad, b, off, cap, rfl, ha, -, hbB, hops⟩ := hI
    by_cases hw : way < 0 ∨ 2 < way
    · have HU : Hid (strictU l way = (([], []), 1)) := by show _ = _; unfold strictU; rw [if_neg (by simpa using hc), if_pos hw]
      have h0 : ¬ way = 0 := by omega
      have h1 : ¬ way = 1 := by omega
      have h2 : ¬ way = 2 := by omega
      have g0 : (way == 0) = false := by simp [h0]
      have g1 : (way == 1) = false := by simp [h1]
      have g2 : (way == 2) = false := by simp [h2]
      have f0 : (way != 0) = true := by simp [h0]
      have f1 : (way != 1) = true := by simp [h1]
      have f2 : (way != 2) = true := by simp [h2]
      clear hc hw hop hlen ha hbB hops HI0
      go_enter Tryz.func6, Tryz.ntmps6
      go_wp2_with fail
      refine HCK.out.mono ?_
      rintro e w1 ⟨rfl, hb1⟩
      go_wp2_with fail
      go_ret3
      rw [HU.out]
      exact ⟨_, _, rfl, isOps_nil _, isInts_nil _, hb1⟩
    · have hway : way = 0 ∨ way = 1 ∨ way = 2 := by omega
      have HU0 : strictU l way = (((strictR way l).told, (strictR way l).vict), 0) := by unfold strictU; rw [if_neg (by simpa using hc), if_neg hw]
      have HE : Hid (∀ W, Below w.heap.size w W → ∀ k, k < l.length → ad = some ⟨b, off, none⟩ ∧ b < w.heap.size ∧ W.cell? ⟨b, off + k * 3, none⟩ = some (.int .i64 (opAt l k).1) ∧ W.cell? ⟨b, off + k * 3 + 1, none⟩ = some (.int .i64 (opAt l k).2.1) ∧ W.cell? ⟨b, off + k * 3 + 2, none⟩ = some (.int .i64 (opAt l k).2.2)) := fun W hW k hk => by
        refine ⟨ha (by omega), ?_, (hops.below hW hbB) k hk⟩
        rcases hbB with h | h
        · exact h
        · subst h; simp at hk
      have HOP := hid_l hop
      have HNL0 : ∀ W, Below w.heap.size w W → Calls Tryz.prog 17 #[.int .i64 way] W fun e w' => ∃ R, e = .returned (.pointer (some ⟨R, 0, none⟩)) ∧ ∃ c, OwnLane w w' R way run0 c := fun W hW => by
        refine (newLane_run way W).mono ?_
        rintro e w' ⟨R, rfl, c, h1, h2, h3⟩
        exact ⟨R, rfl, c, h1, hW.trans (h2.mono hW.size), fun k hk => Nat.le_trans hW.size (h3 k hk)⟩
      obtain ⟨wy, hwy⟩ : ∃ wy, wy = way := ⟨_, rfl⟩
      have HU : Hid (strictU l way = (((strictR wy l).told, (strictR wy l).vict), 0)) := by rw [hwy]; exact HU0
      have HWY : Hid (wy = 0 ∨ wy = 1 ∨ wy = 2) := by rw [hwy]; exact hway
      have HNL : Hid (∀ W, Below w.heap.size w W → Calls Tryz.prog 17 #[.int .i64 way] W fun e w' => ∃ R, e = .returned (.pointer (some ⟨R, 0, none⟩)) ∧ ∃ c, OwnLane w w' R wy run0 c) := by rw [hwy]; exact HNL0
      clear hc hw hop ha hbB hops HI0 HU0 HNL0 hwy
      rcases hway with rfl | rfl | rfl
      all_goals
        go_enter Tryz.func6, Tryz.ntmps6
        go_wp2_with fail
        refine HCK.out.mono ?_
        rintro e w1 ⟨rfl, hb1⟩
        have HB1 := hid_l hb1
        clear hb1
        go_wp2_with fail
        refine (HNL.out _ HB1.out).mono ?_
        rintro e w2 ⟨R, rfl, c2, ho2⟩
        have HO2 := hid_l ho2
        clear ho2
        go_wp2_with fail
        go_loopw [35] (fun v35 wr => ∃ (k : Nat) (ck : Lay), k ≤ l.length ∧ v35 = .int .i64 k ∧ OwnLane w wr R wy (strictR wy (l.take k)) ck) (fun v35 _ => l.length - (intOf v35).toNat)
        case atStart => exact ⟨0, c2, Nat.zero_le _, rfl, HO2.out⟩
        case round =>
          obtain ⟨k, ck, hk, rfl, hok⟩ := hrel
          obtain ⟨hgk, hpk⟩ := strict_ok wy l HOP.out k hk
          have hsk := strictP_sum wy l HOP.out k hk
          have hfk := strict_fits wy l HOP.out k hk
          obtain ⟨rk, hrk⟩ : ∃ rk, strictR wy (l.take k) = rk := ⟨_, rfl⟩
          rw [hrk] at hok hgk hpk hsk hfk
          have HOK := hid_l hok
          have HRK := hid_l hrk
          have HGK : Hid (Good rk ∧ pot rk ≤ k + 6 ∧ sum6 rk.behind ≤ k ∧ Fits rk noP) := ⟨hgk, hpk, hsk, hfk⟩
          clear hok hgk hpk hsk hfk hrk HO2
          by_cases hlt : k < l.length
          · have hlt' : (k : Int) < (l.length : Int) := by omega
            obtain ⟨rfl, hbw, e0, e1, e2⟩ := HE.out wr HOK.out.old k hlt
            obtain ⟨⟨t, a, i⟩, ho⟩ : ∃ o : Op3, opAt l k = o := ⟨_, rfl⟩
            have hiso : isOpB (t, a, i) = true := by rw [← ho]; exact HOP.out _ (opAt_mem hlt)
            have HNX : Hid (strictR wy (l.take (k + 1)) = comeR wy rk (t, a, i)) := by show _ = _; rw [strictP_snoc wy hlt, HRK.out, ho]
            rw [ho] at e0 e1 e2
            simp only at e0 e1 e2
            have hbR : b < wr.heap.size := Nat.lt_of_lt_of_le hbw HOK.out.old.size
            have HCO : Hid (∀ W, Below wr.heap.size wr W → Calls Tryz.prog 18 #[.pointer (some ⟨R, 0, none⟩), .agg #[.int .i64 t, .int .i64 a, .int .i64 i]] W fun e w' => e = .returned (.tuple #[]) ∧ ∃ c1, OwnLane w w' R wy (comeR wy rk (t, a, i)) c1) := fun W hW => by
              have h1 := HOK.out.below hW
              refine (come_lane HWY.out (o := (t, a, i)) h1.run HGK.out.1 HGK.out.2.2.2 (by have := HGK.out.2.1; omega) (by have := HGK.out.2.2.1; omega) hiso).mono ?_
              rintro e w' ⟨he, hst⟩
              exact ⟨he, h1.step hst⟩
            clear ho hiso
            go_wp2_with fail
            refine (HCO.out _ ((Below.refl _ wr).alloc (Nat.le_refl _) _)).mono ?_
            rintro e w3 ⟨rfl, c3, ho3⟩
            have HO3 := hid_l ho3
            clear ho3 e0 e1 e2
            go_wp2_with fail
            go_roundw
            case rel => exact ⟨k + 1, c3, by omega, by go_num, by rw [HNX.out]; exact HO3.out⟩
            case measure => simp [intOf]; omega
          · have hlt' : ¬ (k : Int) < (l.length : Int) := by omega
            obtain rfl : k = l.length := by omega
            have HEND : Hid (strictR wy l = rk) := by show _ = _; rw [← HRK.out, List.take_length]
            have k2 := HOK.out.run.c2
            obtain ⟨ad5, c5, e5, -⟩ := own_slice3 HOK.out.run.told
            rw [e5] at k2
            have hRr := HOK.out.run.lt
            have HIN : Hid (Calls Tryz.prog 19 #[.pointer (some ⟨R, 0, none⟩)] wr.drew fun e w' => ∃ ad n q, e = .returned (.slice ad n q) ∧ w'.cell? ⟨R, 2, none⟩ = some (.slice ad5 rk.told.length c5) ∧ IsInts w' (.slice ad n q) rk.vict ∧ IsOps w' (.slice ad5 rk.told.length c5) rk.told ∧ Below w.heap.size w w') := by
              have h1 := HOK.out.below (Below.refl _ wr).drew
              refine (inOrder_run h1.run HGK.out.2.2.2 (by have := HGK.out.1.vict; omega)).mono ?_
              rintro e w' ⟨ad, n, q, rfl, hi, hb⟩
              have h2 := h1.below hb
              refine ⟨ad, n, q, rfl, ?_, hi, ?_, h2.old⟩
              · rw [← e5]; exact h2.run.c2
              · rw [← e5]; exact isOps_row h2.run.told rfl
            have HK2 : Hid (wr.drew.cell? ⟨R, 2, none⟩ = some (.slice ad5 rk.told.length c5)) := k2
            clear e5
            go_wp2_with fail
            go_region_held3 (fun w' => w'.cell? ⟨R, 2, none⟩ = some (.slice ad5 rk.told.length c5)) (first | exact g2 | exact HK2.out) (first | (go_at_call 19; refine HIN.out.mono ?_; rintro e w3 ⟨ad3, n3, q3, rfl, g2, hi3, hp3, hb3⟩))
            all_goals
              go_wp2_with fail
              go_ret3
              rw [HU.out, HEND.out]
              exact ⟨_, _, rfl, hp3, hi3, hb3⟩
  · have HCK := hid_l (check_bad l v w hI hc)
    have HU : Hid (strictU l way = (([], []), (chk l).2)) := by show _ = _; unfold strictU; rw [if_pos hc]
    have HER := hid_l (errV_ne hc)
    obtain ⟨ad, b, off, cap, rfl, -⟩ := hI
    clear hc HI0
    go_enter Tryz.func6, Tryz.ntmps6
    go_wp2_with fail
    refine HCK.out.mono ?_
    rintro e w1 ⟨rfl, hb1⟩
    go_wp2_with fail
    go_ret3
    rw [HU.out]
    exact ⟨_, _, by rw [HER.out]; rfl, isOps_nil _, isInts_nil _, hb1⟩
end Go.Proofs.YtmjjiehnjghndaaGreat
