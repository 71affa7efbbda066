/-
  PROVED HERE: package stamp's book, its method inOrder: the deals that were aborted, in order, in whichever order the map tells them.
  Conditions: no deal was aborted twice.
  PROVED HERE: package stamp keeps what it is asked (StampC): of any ops, with leave or without, Run tells what chapter 10, as a function on lists, tells. Old memory stays as it was.
  Conditions: none.
-/
import Derived.Test.YtccjognnehoodahGreatMgbi
import Derived.Test.YtccjognnehoodahGreatMgao
import Derived.Deep.RegionHeld3
namespace Go.Proofs.YtccjognnehoodahGreat
open Go.RowKit
open Go.Maps (Keyed)

set_option maxHeartbeats 8000000 in
set_option maxRecDepth 100000 in
theorem inOrder_book {w0 w : World} {R A : Nat} {leave : Bool} {s : Stm} {tv : Value} (h : BookAt w0 w R A leave s tv) (hf : FitS s) (hl : s.vict.length ≤ 6) :
    Calls Tryz.prog 37 #[.pointer (some ⟨R, 0, none⟩)] w fun e w' => ∃ ad n q, e = .returned (.slice ad n q) ∧ IsInts w' (.slice ad n q) s.vict ∧ Below w.heap.size w w' := by
  obtain ⟨vc, hvc⟩ : ∃ vc, s.vict = vc := ⟨_, rfl⟩
  have HN : Hid (vc.Pairwise (· ≠ ·)) := by show List.Pairwise _ _; rw [← hvc]; exact hf.2.1
  have c3 := h.c16
  have HL := hid_b h
  have HM : Hid (∀ W, Below w.heap.size w W → MapIs W A (victF vc) vc.length) := fun W hW => by have := (h.later hW).outs; rw [hvc] at this; exact this
  have hRl := h.lt
  rw [hvc] at hl ⊢
  obtain ⟨i0, hi, hz0, hs0, hy0⟩ := info_parts infoInt
  have HI : Hid (Tryz.prog.info? 3 = some i0 ∧ i0.zero = some (.int .i64 0) ∧ i0.size = 1 ∧ i0.bytes = 8) := ⟨hi, hz0, hs0, hy0⟩
  obtain ⟨m, hm⟩ : ∃ m, vc.length = m := ⟨_, rfl⟩
  have HMM := hid_b hm
  rw [hm] at hl
  have hm0 : (0 : Int) ≤ (m : Int) := by omega
  clear hi hz0 hs0 hy0 hf hvc h hm
  go_enter Tryz.func37, Tryz.ntmps37
  go_upto_region 2 with (first | (at_len; refine wp_len _ rfl (.tmp 9) 81 rfl 3 Tryz.underlying81 A m (victF vc) rfl (HMM.out ▸ HM.out _ (Below.refl _ _)) ?_) | (at_make; refine wpList_make_full _ rfl (.tmp 10) (.tmp 10) 28 rfl w.heap.size 3 i0 (.int .i64 0) 1 Tryz.underlying28 HI.out.1 HI.out.2.1 HI.out.2.2.1 .i64 .i64 (m : Int) (m : Int) m rfl rfl rfl rfl (by rw [HI.out.2.2.2]; omega) (by unfold maxLen; omega) (Nat.le_refl _) ?_; intro w1 hown1 hgr1))
  have HNU : Hid (NumsAt w1 w.heap.size m fun _ => 0) := nums_start hown1 (made_zero m)
  have HB1 : Hid (Below w.heap.size w w1) := ⟨hgr1.os, hgr1.tape, hgr1.output, hgr1.size, fun k hk => hgr1.block k hk (by simp)⟩
  have hS1 : w.heap.size < w1.heap.size := (hown1.lt w.heap.size rfl).2
  obtain ⟨D, hD1, hD2, hD3, hD4, -⟩ := HM.out w1 HB1.out
  have HD1 := hid_b hD1
  have HD3 := hid_b (And.intro hD3 hD4)
  obtain ⟨S, hS⟩ : ∃ S, S = w.heap.size := ⟨_, rfl⟩
  have k3 : w1.cell? ⟨R, 16, none⟩ = some (.map (some A)) := (HL.out.later HB1.out).c16
  have hAS : A ≠ S := by have := (HM.out w (Below.refl _ _)).lt; omega
  have hRS : R ≠ S := by omega
  have HSE := hid_b hS
  rw [← hS] at HNU hS1 ⊢
  clear hown1 hgr1 hD1 hD3 hD4 hS c3
  go_wp2_with (at_range; refine wpList_range_own _ rfl (.tmp 15) 81 rfl 3 3 KI Tryz.underlying81 heldElem A vc.length D rfl HD1.out ?_; intro w2 hrg2 hg2 hs2)
  have ht2 : Turns (fun _ => False) w1 w2 := (Turns.refl _ w1).grown hg2 fun k hk => by cases hk
  have HL2 : Hid (Laid vc (Maps.has D) fun _ => 0) := fun j hj hl => by
    exfalso
    have hmem : vc.getD j 0 ∈ vc := by simp [List.getD, hj]
    have hsm : (victF vc (vc.getD j 0)).isSome = true := by rw [victF_some, decide_eq_true hmem]
    have hr := HM.out w (Below.refl _ _)
    obtain ⟨_, _, _, _, _, h5⟩ := hr
    obtain ⟨a1, a6⟩ := h5 _ hsm
    rw [HD3.out.1 _ (wf_deal a1 a6), hsm] at hl
    cases hl
  have HST : Hid (∃ (left : Lit → Bool) (cnt : Nat) (vs : Nat → Int), w2.ranges Tryz.prog 3 heldElem A w1.heap.size vc.length D left cnt ∧ NumsAt w2 S m vs ∧ Laid vc left vs ∧ Below w.heap.size w w2 ∧ S < w2.heap.size) :=
    ⟨_, _, _, hrg2, HNU.out.turn ht2 hS1 (fun hf => hf), HL2.out, HB1.out.trans ((ht2.below (Nat.le_refl _) fun _ _ hf => hf).mono HB1.out.size), Nat.lt_of_lt_of_le hS1 ht2.size⟩
  have hSI : S ≠ w1.heap.size := by omega
  have hSI2 : S < w1.heap.size := by omega
  obtain ⟨I, hI⟩ : ∃ I, I = w1.heap.size := ⟨_, rfl⟩
  rw [← hI] at HST hSI hSI2 ⊢
  clear hrg2 hg2 hs2 ht2 HL2 k3 hI
  go_frame
  go_loopw [4] (fun _ wr => ∃ (left : Lit → Bool) (cnt : Nat) (vs : Nat → Int), wr.ranges Tryz.prog 3 heldElem A I vc.length D left cnt ∧ NumsAt wr S m vs ∧ Laid vc left vs ∧ Below w.heap.size w wr ∧ S < wr.heap.size) (fun _ wr => wr.rangeLeft A I)
  case atStart => exact HST.out
  case round =>
    obtain ⟨left, cnt, vs, hrg, hnu, hlaid, hbel, hSr⟩ := hrel
    have HRG := hid_b hrg
    have HNR := hid_b hnu
    have HLA := hid_b hlaid
    have HBE := hid_b hbel
    clear hrg hnu hlaid hbel HST
    go_wp2_with (at_next; refine wp_next_outs _ rfl (.tmp 16) rfl A I vc.length D left cnt vc rfl HRG.out HD3.out.1 HD3.out.2 ?_ ?_)
    · intro hc0 hl0
      have HEN : Hid (IsInts wr (.slice (some ⟨S, 0, none⟩) m m) vc) := by
        have h1 := HNR.out
        rw [← HMM.out] at h1 ⊢
        exact h1.ints hSr fun j hj => HLA.out j hj (hl0 _)
      clear hc0 hl0
      go_wp2_with fail
      go_ret
      exact ⟨_, _, _, rfl, HEN.out, HBE.out⟩
    · intro x k w3 cnt3 hxk hrg3 hlt3 hg3 hs3 hen3
      have hkm : k < m := by rw [← HMM.out]; exact (List.getElem?_eq_some_iff.1 hxk).1
      have ht3 : Turns (fun j => j = I) wr w3 := (Turns.refl _ wr).grown hg3 fun j hj => .inl (Option.some.inj hj).symm
      have hn3 := HNR.out.turn ht3 hSr hSI
      obtain ⟨y0, y1⟩ := hn3 k hkm
      have HN3 := hid_b hn3
      have HR3 := hid_b hrg3
      have HL3 := hid_b (HLA.out.step HN.out hxk)
      have HB3 : Hid (Below w.heap.size w w3) := by
        have h1 : ¬ I < w.heap.size := by have := HSE.out; omega
        exact HBE.out.trans (ht3.below HBE.out.size fun j hj e => h1 (e ▸ hj))
      have hS3 : S < w3.heap.size := Nat.lt_of_lt_of_le hSr ht3.size
      have hk1 : (k : Int) < (m : Int) := by omega
      have hk0 : (0 : Int) ≤ (k : Int) := by omega
      have hkn : ¬ (k : Int) < 0 := by omega
      have HLE := hid_b HRG.out.left_eq
      clear hxk hrg3 ht3 hn3 hg3
      go_wp2_with fail
      go_roundw
      case rel =>
        have hkeep : (w3.setCell ⟨S, k, none⟩ (.int .i64 x)).ranges Tryz.prog 3 heldElem A I vc.length D (fun z => left z && !z.sameKey (Lit.int .i64 x)) cnt3 := HR3.out.kept (row := some S) ⟨rfl, rfl, rfl, by simp, fun i hi hne => by rw [Below.heap_setCell _ _ _ _ (fun e => hne (by rw [e]))]⟩ (fun e => hAS (Option.some.inj e)) (fun e => hSI (Option.some.inj e).symm)
        exact ⟨_, cnt3, _, hkeep, HN3.out.set hkm x, HL3.out, HB3.out.setCell (by rw [HSE.out]; exact Nat.le_refl _) _, by simpa using hS3⟩
      case measure =>
        have hkeep : (w3.setCell ⟨S, k, none⟩ (.int .i64 x)).ranges Tryz.prog 3 heldElem A I vc.length D (fun z => left z && !z.sameKey (Lit.int .i64 x)) cnt3 := HR3.out.kept (row := some S) ⟨rfl, rfl, rfl, by simp, fun i hi hne => by rw [Below.heap_setCell _ _ _ _ (fun e => hne (by rw [e]))]⟩ (fun e => hAS (Option.some.inj e)) (fun e => hSI (Option.some.inj e).symm)
        rw [hkeep.left_eq, HLE.out]
        exact hlt3
end Go.Proofs.YtccjognnehoodahGreat

namespace Go.Proofs.YtccjognnehoodahGreat
open Go.RowKit

theorem newBook_run (leave : Bool) (w0 w : World) (hb : Below w0.heap.size w0 w) :
    Calls Tryz.prog 35 #[.bool leave] w fun e w' => ∃ R A, e = .returned (.pointer (some ⟨R, 0, none⟩)) ∧ BookAt w0 w' R A leave stm0 (.slice none 0 0) := by
  have hmm := @run_makeMap Tryz.prog
  have HM := hid_b (book_made w0 w hb leave)
  rw [cells17_lit] at HM
  clear hb
  go_enter Tryz.func35, Tryz.ntmps35
  go_wp2_with fail
  go_ret
  exact ⟨_, _, rfl, HM.out⟩
theorem stampP_snoc (leave : Bool) {l : List Op3} {k : Nat} (hk : k < l.length) : stampR leave (l.take (k + 1)) = stepS leave (stampR leave (l.take k)) (opAt l k) := by
  unfold stampR
  rw [List.take_succ_eq_append_getElem hk, List.foldl_append]
  have : l[k] = opAt l k := by simp [opAt, List.getD, List.getElem?_eq_getElem hk]
  rw [this]
  rfl
theorem nodup_six : ∀ {l : List Int}, l.Pairwise (· ≠ ·) → (∀ v ∈ l, 1 ≤ v ∧ v ≤ 6) → l.length ≤ 6 := by
  intro l hp hr
  have h := lits_len (l.map (Lit.int .i64)) [.int .i64 1, .int .i64 2, .int .i64 3, .int .i64 4, .int .i64 5, .int .i64 6] (List.pairwise_map.2 (hp.imp fun hne e => hne (by injection e))) fun k hk => by
    obtain ⟨x, hx, rfl⟩ := List.mem_map.1 hk
    obtain ⟨h1, h6⟩ := hr x hx
    rcases six h1 h6 with rfl | rfl | rfl | rfl | rfl | rfl <;> simp
  simpa using h
set_option maxHeartbeats 16000000 in
set_option maxRecDepth 100000 in
theorem stampC : StampC := by
  intro l v leave w hI
  by_cases hc : (chk l).2 = 0
  · have HCK := hid_b (check_ok l v w hI hc)
    have HU : Hid (stampU leave l = (((stampR leave l).told, (stampR leave l).vict), 0)) := stampU_ok hc
    obtain ⟨hl40, hop, hcalm⟩ := (chk_iff l).1 hc
    have HOP : Hid (∀ o ∈ l, isOpB o = true) := hop
    have HSK : Hid (∀ k, k ≤ l.length → (stampR leave (l.take k)).told.length ≤ 40 ∧ (stampR leave (l.take k)).vict.length ≤ 6 ∧ FitS (stampR leave (l.take k))) := fun k hk => by
      have h1 := (stamp_ok leave l hop hcalm k hk).long
      have h2 := fit_all leave l hop k hk
      rw [List.length_take] at h1
      exact ⟨by omega, nodup_six h2.2.1 h2.2.2, h2⟩
    obtain ⟨ad, b, off, cap, rfl, ha, -, hbB, hops⟩ := hI
    have HE : Hid (∀ W, Below w.heap.size w W → ∀ k, k < l.length → ad = some ⟨b, off, none⟩ ∧ b < w.heap.size ∧ W.cell? ⟨b, off + k * 3, none⟩ = some (.int .i64 (opAt l k).1) ∧ W.cell? ⟨b, off + k * 3 + 1, none⟩ = some (.int .i64 (opAt l k).2.1) ∧ W.cell? ⟨b, off + k * 3 + 2, none⟩ = some (.int .i64 (opAt l k).2.2)) := fun W hW k hk => by
      refine ⟨ha (by omega), ?_, (hops.below hW hbB) k hk⟩
      rcases hbB with h | h
      · exact h
      · subst h; simp at hk
    clear hc hop hcalm ha hbB hops
    go_enter Tryz.func11, Tryz.ntmps11
    go_wp2_with fail
    refine HCK.out.mono ?_
    rintro e w1 ⟨rfl, hb1⟩
    have HB1 := hid_b hb1
    clear hb1
    go_wp2_with fail
    refine (newBook_run leave w w1 HB1.out).mono ?_
    rintro e w2 ⟨R, A, rfl, ho2⟩
    have HO2 := hid_b ho2
    clear ho2
    go_wp2_with fail
    go_loopw [24] (fun v24 wr => ∃ (k : Nat) (tv : Value), k ≤ l.length ∧ v24 = .int .i64 k ∧ BookAt w wr R A leave (stampR leave (l.take k)) tv) (fun v24 _ => l.length - (intOf v24).toNat)
    case atStart => exact ⟨0, _, Nat.zero_le _, rfl, HO2.out⟩
    case round =>
      obtain ⟨k, tk, hk, rfl, hok⟩ := hrel
      have hsk := HSK.out k hk
      obtain ⟨rk, hrk⟩ : ∃ rk, stampR leave (l.take k) = rk := ⟨_, rfl⟩
      rw [hrk] at hok hsk
      have HOK := hid_b hok
      have HRK := hid_b hrk
      have HGK := hid_b hsk
      clear hok hsk hrk HO2
      by_cases hlt : k < l.length
      · have hlt' : (k : Int) < (l.length : Int) := by omega
        obtain ⟨rfl, hbw, e0, e1, e2⟩ := HE.out wr HOK.out.old k hlt
        obtain ⟨⟨t, a, i⟩, ho⟩ : ∃ o : Op3, opAt l k = o := ⟨_, rfl⟩
        have hiso : isOpB (t, a, i) = true := by rw [← ho]; exact HOP.out _ (opAt_mem hlt)
        have HNX : Hid (stampR leave (l.take (k + 1)) = stepS leave rk (t, a, i)) := by show _ = _; rw [stampP_snoc leave hlt, HRK.out, ho]
        rw [ho] at e0 e1 e2
        simp only at e0 e1 e2
        have hbR : b < wr.heap.size := Nat.lt_of_lt_of_le hbw HOK.out.old.size
        have HCO : Hid (∀ W, Below wr.heap.size wr W → Calls Tryz.prog 36 #[.pointer (some ⟨R, 0, none⟩), .agg #[.int .i64 t, .int .i64 a, .int .i64 i]] W fun e w' => e = .returned (.tuple #[]) ∧ ∃ tv', BookAt w w' R A leave (stepS leave rk (t, a, i)) tv') := fun W hW =>
          come_book (t, a, i) (HOK.out.later hW) HGK.out.2.2 hiso (by have := HGK.out.1; omega)
        clear ho hiso
        go_wp2_with fail
        refine (HCO.out _ ((Below.refl _ wr).alloc (Nat.le_refl _) _)).mono ?_
        rintro e w3 ⟨rfl, c3, ho3⟩
        have HO3 := hid_b ho3
        clear ho3 e0 e1 e2
        go_wp2_with fail
        go_roundw
        case rel => exact ⟨k + 1, c3, by omega, by go_num, by rw [HNX.out]; exact HO3.out⟩
        case measure => simp [intOf]; omega
      · have hlt' : ¬ (k : Int) < (l.length : Int) := by omega
        obtain rfl : k = l.length := by omega
        have HEND : Hid (stampR leave l = rk) := by show _ = _; rw [← HRK.out, List.take_length]
        have k2 := HOK.out.c15
        obtain ⟨ad5, c5, e5, -⟩ := own_slice3 HOK.out.told
        rw [e5] at k2
        have hRr := HOK.out.lt
        have HIN : Hid (Calls Tryz.prog 37 #[.pointer (some ⟨R, 0, none⟩)] wr.drew fun e w' => ∃ ad n q, e = .returned (.slice ad n q) ∧ w'.cell? ⟨R, 15, none⟩ = some (.slice ad5 rk.told.length c5) ∧ IsInts w' (.slice ad n q) rk.vict ∧ IsOps w' (.slice ad5 rk.told.length c5) rk.told ∧ Below w.heap.size w w') := by
          have h1 := HOK.out.later (Below.refl _ wr).drew
          refine (inOrder_book h1 HGK.out.2.2 HGK.out.2.1).mono ?_
          rintro e w' ⟨ad, n, q, rfl, hi, hb⟩
          have h2 := h1.later hb
          refine ⟨ad, n, q, rfl, ?_, hi, ?_, h2.old⟩
          · rw [← e5]; exact h2.c15
          · rw [← e5]; exact isOps_row h2.told rfl
        have HK2 : Hid (wr.drew.cell? ⟨R, 15, none⟩ = some (.slice ad5 rk.told.length c5)) := k2
        clear e5
        go_wp2_with fail
        go_region_held3 (fun w' => w'.cell? ⟨R, 15, none⟩ = some (.slice ad5 rk.told.length c5)) (first | exact g2 | exact HK2.out) (first | (go_at_call 37; refine HIN.out.mono ?_; rintro e w3 ⟨ad3, n3, q3, rfl, g2, hi3, hp3, hb3⟩))
        all_goals
          go_wp2_with fail
          go_ret3
          rw [HU.out, HEND.out]
          exact ⟨_, _, rfl, hp3, hi3, hb3⟩
  · have HCK := hid_b (check_bad l v w hI hc)
    have HU : Hid (stampU leave l = (([], []), (chk l).2)) := stampU_bad hc
    have HER := hid_b (errV_ne hc)
    obtain ⟨ad, b, off, cap, rfl, -⟩ := hI
    clear hc
    go_enter Tryz.func11, Tryz.ntmps11
    go_wp2_with fail
    refine HCK.out.mono ?_
    rintro e w1 ⟨rfl, hb1⟩
    go_wp2_with fail
    go_ret3
    rw [HU.out]
    exact ⟨_, _, by rw [HER.out]; rfl, isOps_nil _, isInts_nil _, hb1⟩
end Go.Proofs.YtccjognnehoodahGreat
