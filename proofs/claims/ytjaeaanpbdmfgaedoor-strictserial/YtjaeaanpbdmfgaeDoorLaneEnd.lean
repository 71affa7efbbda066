/-
  PROVED HERE: strict.lane's method inOrder, over a run in memory: the deals that were aborted, in order, in whichever order the map tells them.
  Conditions: no deal was aborted twice.
-/
import Derived.Test.YtjaeaanpbdmfgaeDoorLane1
namespace Go.Proofs.YtjaeaanpbdmfgaeDoor
open Go.RowKit
open Go.Maps (Keyed)

set_option maxHeartbeats 8000000 in
set_option maxRecDepth 100000 in
theorem inOrder_run {R : Nat} {way : Int} {r : Runr} {g : Int → Option Value} {c : Lay} {P : Int → Option Op3} {w : World} (h : LaneAt w R way r g c) (hf : Fits r P) (hl : r.vict.length ≤ 6) :
    Calls Tryd.prog 48 #[.pointer (some ⟨R, 0, none⟩)] w fun e w' => ∃ ad n q, e = .returned (.slice ad n q) ∧ IsInts w' (.slice ad n q) r.vict ∧ Below w.heap.size w w' := by
  obtain ⟨vc, hvc⟩ : ∃ vc, r.vict = vc := ⟨_, rfl⟩
  have HN : Hid (vc.Pairwise (· ≠ ·)) := by show List.Pairwise _ _; rw [← hvc]; exact hf.nodup
  have c3 := h.c3
  have HL := hid_l h
  have HM : Hid (∀ W, Below w.heap.size w W → MapIs W c.A (victF vc) vc.length) := fun W hW => by have := (h.below hW).outs; rw [hvc] at this; exact this
  have hRl := h.lt
  rw [hvc] at hl ⊢
  obtain ⟨i0, hi, hz0, hs0, hy0⟩ := info_parts infoInt
  have HI : Hid (Tryd.prog.info? 3 = some i0 ∧ i0.zero = some (.int .i64 0) ∧ i0.size = 1 ∧ i0.bytes = 8) := ⟨hi, hz0, hs0, hy0⟩
  obtain ⟨m, hm⟩ : ∃ m, vc.length = m := ⟨_, rfl⟩
  have HMM := hid_l hm
  rw [hm] at hl
  have hm0 : (0 : Int) ≤ (m : Int) := by omega
  clear hi hz0 hs0 hy0 hf hvc h hm
  go_enter Tryd.func48, Tryd.ntmps48
  go_upto_region 2 with (first | (at_len; refine wp_len _ rfl (.tmp 9) 84 rfl 3 Tryd.underlying84 c.A m (victF vc) rfl (HMM.out ▸ HM.out _ (Below.refl _ _)) ?_) | (at_make; refine wpList_make_full _ rfl (.tmp 10) (.tmp 10) 23 rfl w.heap.size 3 i0 (.int .i64 0) 1 Tryd.underlying23 HI.out.1 HI.out.2.1 HI.out.2.2.1 .i64 .i64 (m : Int) (m : Int) m rfl rfl rfl rfl (by rw [HI.out.2.2.2]; omega) (by unfold maxLen; omega) (Nat.le_refl _) ?_; intro w1 hown1 hgr1))
  have HNU : Hid (NumsAt w1 w.heap.size m fun _ => 0) := nums_start hown1 (made_zero m)
  have HB1 : Hid (Below w.heap.size w w1) := ⟨hgr1.os, hgr1.tape, hgr1.output, hgr1.size, fun k hk => hgr1.block k hk (by simp)⟩
  have hS1 : w.heap.size < w1.heap.size := (hown1.lt w.heap.size rfl).2
  obtain ⟨D, hD1, hD2, hD3, hD4, -⟩ := HM.out w1 HB1.out
  have HD1 := hid_l hD1
  have HD3 := hid_l (And.intro hD3 hD4)
  obtain ⟨S, hS⟩ : ∃ S, S = w.heap.size := ⟨_, rfl⟩
  have k3 : w1.cell? ⟨R, 3, none⟩ = some (.map (some c.A)) := (HL.out.below HB1.out).c3
  have hAS : c.A ≠ S := by have := (HM.out w (Below.refl _ _)).lt; omega
  have hRS : R ≠ S := by omega
  have HSE := hid_l hS
  rw [← hS] at HNU hS1 ⊢
  clear hown1 hgr1 hD1 hD3 hD4 hS c3
  go_wp2_with (at_range; refine wpList_range_own _ rfl (.tmp 15) 84 rfl 3 3 KI Tryd.underlying84 heldElem c.A vc.length D rfl HD1.out ?_; intro w2 hrg2 hg2 hs2)
  have ht2 : Turns (fun _ => False) w1 w2 := (Turns.refl _ w1).grown hg2 fun k hk => by cases hk
  have HL2 : Hid (Laid vc (Maps.has D) fun _ => 0) := fun j hj hl => by
    exfalso
    have hmem : vc.getD j 0 ∈ vc := by simp [List.getD, hj]
    have hsm : (victF vc (vc.getD j 0)).isSome = true := by rw [victF_some, decide_eq_true hmem]
    have hr := HM.out w (Below.refl _ _)
    obtain ⟨_, _, _, _, _, h5⟩ := hr
    obtain ⟨a1, a6⟩ := h5 _ hsm
    rw [HD3.out.1 _ (wf_deal a1 a6), hsm] at hl
    cases hl
  have HST : Hid (∃ (left : Lit → Bool) (cnt : Nat) (vs : Nat → Int), w2.ranges Tryd.prog 3 heldElem c.A w1.heap.size vc.length D left cnt ∧ NumsAt w2 S m vs ∧ Laid vc left vs ∧ Below w.heap.size w w2 ∧ S < w2.heap.size) :=
    ⟨_, _, _, hrg2, HNU.out.turn ht2 hS1 (fun hf => hf), HL2.out, HB1.out.trans ((ht2.below (Nat.le_refl _) fun _ _ hf => hf).mono HB1.out.size), Nat.lt_of_lt_of_le hS1 ht2.size⟩
  have hSI : S ≠ w1.heap.size := by omega
  have hSI2 : S < w1.heap.size := by omega
  obtain ⟨I, hI⟩ : ∃ I, I = w1.heap.size := ⟨_, rfl⟩
  rw [← hI] at HST hSI hSI2 ⊢
  clear hrg2 hg2 hs2 ht2 HL2 k3 hI
  go_frame
  go_loopw [4] (fun _ wr => ∃ (left : Lit → Bool) (cnt : Nat) (vs : Nat → Int), wr.ranges Tryd.prog 3 heldElem c.A I vc.length D left cnt ∧ NumsAt wr S m vs ∧ Laid vc left vs ∧ Below w.heap.size w wr ∧ S < wr.heap.size) (fun _ wr => wr.rangeLeft c.A I)
  case atStart => exact HST.out
  case round =>
    obtain ⟨left, cnt, vs, hrg, hnu, hlaid, hbel, hSr⟩ := hrel
    have HRG := hid_l hrg
    have HNR := hid_l hnu
    have HLA := hid_l hlaid
    have HBE := hid_l hbel
    clear hrg hnu hlaid hbel HST
    go_wp2_with (at_next; refine wp_next_outs _ rfl (.tmp 16) rfl c.A I vc.length D left cnt vc rfl HRG.out HD3.out.1 HD3.out.2 ?_ ?_)
    · intro hc0 hl0
      have HEN : Hid (IsInts wr (.slice (some ⟨S, 0, none⟩) m m) vc) := by
        have h1 := HNR.out
        rw [← HMM.out] at h1 ⊢
        exact h1.ints hSr fun j hj => HLA.out j hj (hl0 _)
      clear hc0 hl0
      go_wp2_with fail
      go_ret
      exact ⟨_, _, _, rfl, HEN.out, HBE.out⟩
    · intro x k w3 cnt3 hxk hrg3 hlt3 hg3 hs3 hen3
      have hkm : k < m := by rw [← HMM.out]; exact (List.getElem?_eq_some_iff.1 hxk).1
      have ht3 : Turns (fun j => j = I) wr w3 := (Turns.refl _ wr).grown hg3 fun j hj => .inl (Option.some.inj hj).symm
      have hn3 := HNR.out.turn ht3 hSr hSI
      obtain ⟨y0, y1⟩ := hn3 k hkm
      have HN3 := hid_l hn3
      have HR3 := hid_l hrg3
      have HL3 := hid_l (HLA.out.step HN.out hxk)
      have HB3 : Hid (Below w.heap.size w w3) := by
        have h1 : ¬ I < w.heap.size := by have := HSE.out; omega
        exact HBE.out.trans (ht3.below HBE.out.size fun j hj e => h1 (e ▸ hj))
      have hS3 : S < w3.heap.size := Nat.lt_of_lt_of_le hSr ht3.size
      have hk1 : (k : Int) < (m : Int) := by omega
      have hk0 : (0 : Int) ≤ (k : Int) := by omega
      have hkn : ¬ (k : Int) < 0 := by omega
      have HLE := hid_l HRG.out.left_eq
      clear hxk hrg3 ht3 hn3 hg3
      go_wp2_with fail
      go_roundw
      case rel =>
        have hkeep : (w3.setCell ⟨S, k, none⟩ (.int .i64 x)).ranges Tryd.prog 3 heldElem c.A I vc.length D (fun z => left z && !z.sameKey (Lit.int .i64 x)) cnt3 := HR3.out.kept (row := some S) ⟨rfl, rfl, rfl, by simp, fun i hi hne => by rw [Below.heap_setCell _ _ _ _ (fun e => hne (by rw [e]))]⟩ (fun e => hAS (Option.some.inj e)) (fun e => hSI (Option.some.inj e).symm)
        exact ⟨_, cnt3, _, hkeep, HN3.out.set hkm x, HL3.out, HB3.out.setCell (by rw [HSE.out]; exact Nat.le_refl _) _, by simpa using hS3⟩
      case measure =>
        have hkeep : (w3.setCell ⟨S, k, none⟩ (.int .i64 x)).ranges Tryd.prog 3 heldElem c.A I vc.length D (fun z => left z && !z.sameKey (Lit.int .i64 x)) cnt3 := HR3.out.kept (row := some S) ⟨rfl, rfl, rfl, by simp, fun i hi hne => by rw [Below.heap_setCell _ _ _ _ (fun e => hne (by rw [e]))]⟩ (fun e => hAS (Option.some.inj e)) (fun e => hSI (Option.some.inj e).symm)
        rw [hkeep.left_eq, HLE.out]
        exact hlt3
end Go.Proofs.YtjaeaanpbdmfgaeDoor
