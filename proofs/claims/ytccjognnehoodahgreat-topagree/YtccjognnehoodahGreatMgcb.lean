/-
  PROVED HERE: strict.lane's methods abort and wound, over a run in memory, if free does what chapter 9 says.
  Conditions: what free does is a premise.
  PROVED HERE: strict.lane's methods avoid and do, over a run in memory: what one op of a deal that does not wait comes to, by each way.
  Conditions: the lists are short; what is said of those that wait fits the table.
-/
import Derived.Test.YtccjognnehoodahGreatMgbz
import Derived.Test.YtccjognnehoodahGreatMgca
import Derived.Test.YtccjognnehoodahGreatMgby
namespace Go.Proofs.YtccjognnehoodahGreat
open Go.RowKit

def AbortL (way : Int) (n : Nat) : Prop := ∀ (R : Nat) (r : Runr) (c : Lay) (P : Int → Option Op3) (d : Int) (w : World), LaneAt w R way r (wm r P) c → Good r → Fits r P → 1 ≤ d → d ≤ 6 → r.out d = false → pot r ≤ 47 → sum6 r.behind ≤ n →
  Calls Tryz.prog 145 #[.pointer (some ⟨R, 0, none⟩), .int .i64 d] w fun e w' => e = .returned (.tuple #[]) ∧ LaneStep w w' R way c (abortR (doN way n) r d) (wm (abortR (doN way n) r d) P)
theorem wm_abort {r : Runr} {P : Int → Option Op3} {t d : Int} (h : d ≠ t) : wm r P d = wm (abort0 r t) P d := by
  unfold wm abort0
  simp only [setF_other _ _ h]
set_option maxHeartbeats 8000000 in
set_option maxRecDepth 100000 in
theorem abort_lane {way : Int} {n : Nat} (hF : FreeL way n) : AbortL way n := by
  intro R r c P d w h hg hf h1 h6 ho hp hs
  have HF := hid_l hF
  have HTB := hid_l (hg.tabs hp)
  have HAG := hid_l (abort_good hg h1 h6 ho)
  have HAP : Hid (pot (abort0 r d) ≤ 47 ∧ sum6 (abort0 r d).behind ≤ n) := ⟨Nat.le_trans (abort0_pot h1 h6 ho) hp, Nat.le_trans (abort0_sum r _) hs⟩
  have HFB := hid_l (hf.abort ho)
  have hwf : Wf d := wf_deal h1 h6
  have hv : d ∉ r.vict := fun hm => by rw [(hf.vict d).2 hm] at ho; cases ho
  have HS := hid_l (Since.start h)
  have c3 := h.c3
  have HM3 := hid_l h.outs
  have HVS : Hid (∀ y, victF (r.vict ++ [d]) y = setF (victF r.vict) d (some (.int .i64 (r.vict.length : Int))) y) := fun y => victF_snoc hv y
  have HVN : Hid ((victF r.vict d).isSome = false) := by show _ = false; rw [victF_some, decide_eq_false hv]
  clear hF hg hf ho hp hs hv h
  go_enter Tryz.func145, Tryz.ntmps145
  go_wp2_with (first | (at_len; refine wp_len _ rfl (.tmp 8) 81 rfl 3 Tryz.underlying81 c.A r.vict.length (victF r.vict) rfl HM3.out ?_) | (at_mapUpdate; refine wp_store _ rfl (.tmp 13) (.tmp 14) (.tmp 15) 81 rfl 3 Tryz.underlying81 c.A r.vict.length (victF r.vict) rfl HM3.out d (.int .i64 (r.vict.length : Int)) rfl rfl h1 h6 ?_; intro w1 hm1 ht1))
  have hst1 := HS.out.run.setOuts (l := r.vict ++ [d]) (by
    have h2 := hm1
    rw [HVN.out] at h2
    have h3 := MapIs.congr h2 HVS.out
    rw [List.length_append, List.length_singleton]
    exact h3) ht1
  obtain ⟨c1, hs1⟩ := HS.out.step hst1
  have HS1 := hid_l hs1
  clear hm1 ht1 hst1 hs1 c3 HM3 HS
  go_wp2_with fail
  refine (tell_run (d, 4, 0) HS1.out.run HTB.out.2.2.1).mono ?_
  rintro e w2 ⟨rfl, hst2⟩
  obtain ⟨c2, hs2⟩ := HS1.out.step hst2
  have HS2 := hid_l hs2
  obtain ⟨m5, hm5⟩ := hs2.run.beh
  have HM5 := hid_l hm5
  have c5 := hs2.run.c5
  clear hst2 hs2 hm5 HS1
  go_wp2_with (at_delete; refine wp_drop _ rfl (.tmp 23) (.tmp 24) 89 rfl 22 Tryz.underlying89 c2.B m5 c2.h rfl HM5.out d rfl hwf ?_; intro w3 m3 hm3 ht3)
  obtain ⟨dn, rfl⟩ : ∃ k : Nat, d = k := ⟨d.toNat, by omega⟩
  obtain ⟨c3, hs3⟩ := HS2.out.step (HS2.out.run.dropBeh (d := dn) (by omega) hm3 ht3)
  have HS3 : Hid (LaneAt w3 R way (abort0 r (dn : Int)) (wm r P) c3) := hs3.run.as rfl rfl rfl rfl
  have HST : Hid (Turns (feet R c) w w3 ∧ ∀ k, feet R c3 k → feet R c k ∨ w.heap.size ≤ k) := ⟨hs3.turn, hs3.feet⟩
  clear hm3 ht3 hs3 c5 HS2 HM5
  go_wp2_with fail
  refine (HF.out R (abort0 r (dn : Int)) (wm r P) c3 P (dn : Int) w3 HS3.out (fun e he => wm_abort he) HFB.out HAG.out HTB.out.1 HTB.out.2.1 h1 h6 HAP.out.1 HAP.out.2).mono ?_
  rintro e w4 ⟨rfl, hst4⟩
  have HS4 := hid_l hst4
  clear hst4
  go_wp2_with fail
  go_end0
  exact ⟨rfl, LaneStep.trans HST.out.1 HST.out.2 HS4.out⟩
/-- How many deals are not aborted, as memory has it. -/
theorem live_mu (R : Nat) : ∃ mu : World → Nat, ∀ {w : World} {way : Int} {r : Runr} {g : Int → Option Value} {c : Lay} {P : Int → Option Op3}, LaneAt w R way r g c → Fits r P → mu w = cnt6 fun d => !r.out d := by
  obtain ⟨f, hf⟩ : ∃ f : World → Nat → Nat, ∀ w d, f w d = (match w.cell? ⟨R, 3, none⟩ with
    | some m => (match (Instr.lookup 81 m (.int .i64 d) true).run Tryz.prog w with | .ok (.tuple a) _ => (match a.toList with | [_, Value.bool false] => 1 | _ => 0) | _ => 0)
    | none => 0) := ⟨_, fun _ _ => rfl⟩
  refine ⟨fun w => f w 1 + f w 2 + f w 3 + f w 4 + f w 5 + f w 6, ?_⟩
  intro w way r g c P h hfit
  have h1 : ∀ d : Nat, 1 ≤ d → d ≤ 6 → f w d = (!r.out (d : Int)).toNat := fun d h1 h6 => by
    rw [hf, h.c3]
    simp only [h.outs.look true Tryz.underlying81 (zero_int w) (wf_deal (x := (d : Int)) (by omega) (by omega)), if_true, victF_some]
    cases ho : r.out (d : Int) with
    | true => rw [decide_eq_true ((hfit.vict _).1 ho)]; rfl
    | false => rw [decide_eq_false (fun hm => by rw [(hfit.vict _).2 hm] at ho; cases ho)]; rfl
  dsimp only
  unfold cnt6
  rw [h1 1 (by omega) (by omega), h1 2 (by omega) (by omega), h1 3 (by omega) (by omega), h1 4 (by omega) (by omega), h1 5 (by omega) (by omega), h1 6 (by omega) (by omega)]
  rfl
def WoundL (way : Int) (n : Nat) : Prop := ∀ (R : Nat) (r : Runr) (c : Lay) (P : Int → Option Op3) (t : Int) (w : World), LaneAt w R way r (wm r P) c → Good r → Fits r P → 1 ≤ t → t ≤ 6 → pot r ≤ 47 → sum6 r.behind ≤ n →
  Calls Tryz.prog 148 #[.pointer (some ⟨R, 0, none⟩), .int .i64 t] w fun e w' => e = .returned (.tuple #[]) ∧ LaneStep w w' R way c (woundN (doN way n) t 7 r) (wm (woundN (doN way n) t 7 r) P)
theorem first_young {s : Tab2} {t : Int} {k : Nat} (hk : k < (whomR s t).length) (hq : decide (t < (whomR s t).getD k 0) = true) (hn : ((whomR s t).take k).any (fun x => decide (t < x)) = false) : youngR s t = some ((whomR s t).getD k 0) := by
  refine young_hit hk rfl (fun i hi hlt => ?_) (by simpa using hq)
  have hm : (whomR s t).getD i 0 ∈ (whomR s t).take k := by
    rw [List.mem_iff_getElem]
    exact ⟨i, by simp; omega, by simp [List.getD, List.getElem?_eq_getElem (show i < (whomR s t).length by omega)]⟩
  have := List.any_eq_false.1 hn _ hm
  exact this (by simpa using hlt)
theorem none_young {s : Tab2} {t : Int} (h : (whomR s t).any (fun x => decide (t < x)) = false) : youngR s t = none := by
  refine young_none fun i hi hlt => ?_
  have := List.any_eq_false.1 h _ (getD_memL hi)
  exact this (by simpa using hlt)
set_option maxHeartbeats 8000000 in
set_option maxRecDepth 100000 in
theorem wound_lane {way : Int} {n : Nat} (hA : AbortL way n) : WoundL way n := by
  intro R r c P t w h hg hf h1 h6 hp hs
  obtain ⟨mu, hmu⟩ := live_mu R
  have HMU : Hid (∀ {w : World} {way : Int} {r : Runr} {g : Int → Option Value} {c : Lay} {P : Int → Option Op3}, LaneAt w R way r g c → Fits r P → mu w = cnt6 fun d => !r.out d) := hmu
  clear hmu
  have HA := hid_l hA
  have HDO := hid_l (doN_ok way n)
  have HDF := hid_l (doN_fits way n)
  have hwf : Wf t := wf_deal h1 h6
  obtain ⟨TG, hTG⟩ : ∃ TG, woundN (doN way n) t 7 r = TG := ⟨_, rfl⟩
  rw [hTG]
  have hlv : (cnt6 fun d => !r.out d) + 1 ≤ 7 := by have := hg.vict; omega
  have HST : Hid (Since w w R way c r (wm r P) c ∧ Good r ∧ Fits r P ∧ pot r ≤ 47 ∧ sum6 r.behind ≤ n ∧ woundN (doN way n) t 7 r = TG ∧ (cnt6 fun d => !r.out d) + 1 ≤ 7) := ⟨Since.start h, hg, hf, hp, hs, hTG, hlv⟩
  clear hA h hg hf hp hs hTG hlv
  go_enter Tryz.func148, Tryz.ntmps148
  go_wp2_with fail
  obtain ⟨W, hW⟩ : ∃ W, W = w.alloc (.cells #[.int .i64 t] 3) := ⟨_, rfl⟩
  rw [← hW]
  have hbW : Below w.heap.size w W := by rw [hW]; exact (Below.refl _ w).alloc (Nat.le_refl _) _
  have p0 : W.cell? ⟨w.heap.size, 0, none⟩ = some (.int .i64 t) := by rw [hW]; simp
  have hnf : ¬ feet R c w.heap.size := fun hk => by have := HST.out.1.run.feet_lt hk; omega
  obtain ⟨Q, hQ⟩ : ∃ Q, Q = w.heap.size := ⟨_, rfl⟩
  rw [← hQ] at p0 hnf ⊢
  have HS0 : Hid (∃ (m : Nat) (rm : Runr) (cm : Lay), Since w W R way c rm (wm rm P) cm ∧ W.cell? ⟨Q, 0, none⟩ = some (.int .i64 t) ∧ ¬ feet R cm Q ∧ Good rm ∧ Fits rm P ∧ pot rm ≤ 47 ∧ sum6 rm.behind ≤ n ∧ woundN (doN way n) t m rm = TG ∧ (cnt6 fun d => !rm.out d) + 1 ≤ m) := ⟨7, r, c, HST.out.1.below hbW, p0, hnf, HST.out.2⟩
  clear hW hbW p0 hnf hQ HST
  go_loopw [5] (fun _ wr => ∃ (m : Nat) (rm : Runr) (cm : Lay), Since w wr R way c rm (wm rm P) cm ∧ wr.cell? ⟨Q, 0, none⟩ = some (.int .i64 t) ∧ ¬ feet R cm Q ∧ Good rm ∧ Fits rm P ∧ pot rm ≤ 47 ∧ sum6 rm.behind ≤ n ∧ woundN (doN way n) t m rm = TG ∧ (cnt6 fun d => !rm.out d) + 1 ≤ m) (fun _ wr => mu wr)
  case atStart => exact HS0.out
  case round =>
    obtain ⟨m, rm, cm, hsi, hq0, hnf, hgood, hfits, hpot, hsum, hwo, hlv⟩ := hrel
    have HSI := hid_l hsi
    have HQ := hid_l (And.intro hq0 hnf)
    have HOK := hid_l (And.intro hgood (And.intro hfits (And.intro hpot (And.intro hsum (And.intro hwo hlv)))))
    have HLV := hid_l (HMU.out hsi.run hfits)
    have hsix : (whomR rm.tab t).length ≤ 6 := whom_six (fun d x hx => (whom_deal hgood hx).2) t
    have htb := hgood.tabs hpot
    have HWF := hid_l (waitsFor_run hsi.run hfits hwf (by omega) (by omega))
    clear hsi hnf hgood hfits hpot hsum hwo hlv HS0 htb
    go_wp2_with fail
    refine HWF.out.mono ?_
    rintro e w1 ⟨v1, rfl, hi1, hb1⟩
    have HI1 := hid_l hi1
    have HB1 := hid_l hb1
    have hq1 : w1.cell? ⟨Q, 0, none⟩ = some (.int .i64 t) := (hb1.cell (p := ⟨Q, 0, none⟩) (World.block_lt_of_cell? wr _ hq0)).trans hq0
    obtain ⟨ad1, cp1, rfl, -⟩ := own_slice3 hi1
    have HYA := hid_l (younger_any (whomR rm.tab t) (.slice ad1 (whomR rm.tab t).length cp1) t Q w1 hi1.ints hsix hq1)
    clear hi1 hb1 HWF hq0
    go_wp2_with fail
    refine HYA.out.mono ?_
    rintro e w2 ⟨n2, rfl, hfi, hb2⟩
    have HB2 : Hid (Below wr.heap.size wr w2) := HB1.out.trans (hb2.mono HB1.out.size)
    have HI2 : Hid (OwnI w2 wr.heap.size (.slice ad1 (whomR rm.tab t).length cp1) (whomR rm.tab t)) := HI1.out.below hb2 (Nat.le_refl _)
    have hq2 : w2.cell? ⟨Q, 0, none⟩ = some (.int .i64 t) := (hb2.cell (p := ⟨Q, 0, none⟩) (World.block_lt_of_cell? w1 _ hq1)).trans hq1
    clear hb2 HYA HI1 hq1
    rcases hfi with ⟨rfl, hno⟩ | ⟨k, rfl, hk, hq, hno⟩
    · have HTE : Hid (rm = TG) := by show _ = _; rw [← HOK.out.2.2.2.2.1, wound_none (none_young hno)]
      clear hno
      go_wp2_with fail
      refine bodyPost_ret (results_none Tryz.results148 _ _ _) rfl ⟨rfl, ?_⟩
      rw [← HTE.out]
      exact (HSI.out.below HB2.out).done
    · have hy := first_young hk hq hno
      obtain ⟨x, hx⟩ : ∃ x, (whomR rm.tab t).getD k 0 = x := ⟨_, rfl⟩
      rw [hx] at hy
      obtain ⟨y1, y2, y3⟩ := whom_deal HOK.out.1 (young_mem hy).1
      obtain ⟨m', rfl⟩ : ∃ m', m = m' + 1 := ⟨m - 1, by have := HOK.out.2.2.2.2.2; omega⟩
      have HWN : Hid (woundN (doN way n) t m' (abortR (doN way n) rm x) = TG) := by show _ = _; rw [← wound_some hy]; exact HOK.out.2.2.2.2.1
      obtain ⟨s1, s2⟩ := abort_ok HDO.out HOK.out.1 y2 y3 y1
      have HAF := hid_l (abort_fits HDO.out HDF.out HOK.out.1 HOK.out.2.1 y2 y3 y1)
      have HLL := hid_l (live_less y2 y3 y1 s2 s1.outs)
      have HSS := hid_l s1
      have hk' : ¬ (k : Int) < 0 := by omega
      have hk0 : (0 : Int) ≤ (k : Int) := by omega
      have hkl : (k : Int) < ((whomR rm.tab t).length : Int) := by omega
      obtain ⟨gg, rfl, -, hgl, -⟩ := (own_slice3 HI2.out).elim fun _ h => h.elim fun _ h => by
        obtain ⟨e, h⟩ := h
        simp only [Value.slice.injEq, true_and] at e
        obtain ⟨rfl, rfl⟩ := e
        exact h (by omega)
      have e0 : w2.cell? ⟨gg, k, none⟩ = some (.int .i64 x) := by
        have h1 : w2.ownsRow wr.heap.size 3 1 (.slice (some ⟨gg, 0, none⟩) (whomR rm.tab t).length cp1) (whomR rm.tab t).length ((whomR rm.tab t).map (Value.int .i64)) := HI2.out
        have h2 := h1.cells (g := gg) rfl k (.int .i64 x) (by rw [List.getElem?_map, List.getElem?_eq_getElem hk, ← hx]; simp [List.getD, hk])
        rw [Addr.add_lit, Nat.zero_add] at h2
        exact h2
      have HS2 := hid_l (HSI.out.below HB2.out)
      have HAB := hid_l (HA.out R rm cm P x w2 HS2.out.run HOK.out.1 HOK.out.2.1 y2 y3 y1 HOK.out.2.2.1 HOK.out.2.2.2.1)
      clear hno hq hy hx y1 y2 y3 s1 s2
      go_wp2_with fail
      refine HAB.out.mono ?_
      rintro e w3 ⟨rfl, hst3⟩
      have htu : Turns (feet R cm) w2 w3 := by obtain ⟨_, _, h1, _⟩ := hst3; exact h1
      have hq3 : w3.cell? ⟨Q, 0, none⟩ = some (.int .i64 t) := (htu.cell (p := ⟨Q, 0, none⟩) (World.block_lt_of_cell? w2 _ hq2) HQ.out.2).trans hq2
      obtain ⟨c3, a1, a2, a3⟩ := hst3
      have hnf3 : ¬ feet R c3 Q := fun hk => by
        rcases a3 Q hk with h1 | h1
        · exact HQ.out.2 h1
        · have := World.block_lt_of_cell? w2 _ hq2; simp only at this; omega
      have HS3 := hid_l (HS2.out.to a1 a2 a3)
      have HL3 := hid_l (HMU.out a1 HAF.out)
      have HN3 := hid_l (And.intro hq3 hnf3)
      clear a1 a2 a3 htu hq3 hnf3 hq2 e0 hgl
      go_wp2_with fail
      go_roundw
      case rel => exact ⟨m', _, c3, HS3.out, HN3.out.1, HN3.out.2, HSS.out.good, HAF.out, by have := HSS.out.pots; have := HOK.out.2.2.1; omega, by have := sum_mono HSS.out.less; have := HOK.out.2.2.2.1; omega, HWN.out, by have := HLL.out; have := HOK.out.2.2.2.2.2; omega⟩
      case measure => rw [HL3.out, HLV.out]; have := HLL.out; omega
end Go.Proofs.YtccjognnehoodahGreat

namespace Go.Proofs.YtccjognnehoodahGreat
open Go.RowKit

def AvoidL (way : Int) (n : Nat) : Prop := ∀ (R : Nat) (r : Runr) (c : Lay) (P : Int → Option Op3) (t : Nat) (w : World), LaneAt w R way r (wm r P) c → Good r → Fits r P → 1 ≤ t → t ≤ 6 → r.out (t : Int) = false → pot r ≤ 47 → sum6 r.behind ≤ n →
  Calls Tryz.prog 114 #[.pointer (some ⟨R, 0, none⟩), .int .i64 t] w fun e w' => e = .returned (.tuple #[]) ∧ LaneStep w w' R way c (wayR way (doN way n) r t) (wm (wayR way (doN way n) r t) P)
set_option maxHeartbeats 8000000 in
set_option maxRecDepth 100000 in
theorem avoid_lane {way : Int} (hway : way = 0 ∨ way = 1 ∨ way = 2) {n : Nat} (hA : AbortL way n) (hW : WoundL way n) : AvoidL way n := by
  intro R r c P t w h hg hf h1 h6 ho hp hs
  have hbW : Below w.heap.size w (w.alloc (.cells #[.int .i64 (t : Int)] 3)) := (Below.refl _ w).alloc (Nat.le_refl _) _
  have htb := hg.tabs hp
  have hwd : ∀ d x, x ∈ whomR r.tab d → 1 ≤ x ∧ x ≤ 6 := fun d x hx => (whom_deal hg hx).2
  have hsix := whom_six hwd (t : Int)
  have hwf : Wf (t : Int) := wf_deal (by omega) (by omega)
  have HA : Hid (∀ (W : World), LaneAt W R way r (wm r P) c → Calls Tryz.prog 145 #[.pointer (some ⟨R, 0, none⟩), .int .i64 t] W fun e w' => e = .returned (.tuple #[]) ∧ LaneStep W w' R way c (abortR (doN way n) r t) (wm (abortR (doN way n) r t) P)) := fun W hl => hA R r c P t W hl hg hf (by omega) (by omega) ho hp hs
  have HWD : Hid (∀ (W : World), LaneAt W R way r (wm r P) c → Calls Tryz.prog 148 #[.pointer (some ⟨R, 0, none⟩), .int .i64 t] W fun e w' => e = .returned (.tuple #[]) ∧ LaneStep W w' R way c (woundN (doN way n) t 7 r) (wm (woundN (doN way n) t 7 r) P)) := fun W hl => hW R r c P t W hl hg hf (by omega) (by omega) hp hs
  have HRI : Hid (∀ (W : World), LaneAt W R way r (wm r P) c → Calls Tryz.prog 144 #[.pointer (some ⟨R, 0, none⟩), .int .i64 t] W fun e w' => e = .returned (.bool (ringR r.tab t)) ∧ Below W.heap.size W w') := fun W hl => isInRing_run hl hf h1 h6 (by omega) (by omega) hwd
  have HWF : Hid (∀ (W : World), LaneAt W R way r (wm r P) c → Calls Tryz.prog 147 #[.pointer (some ⟨R, 0, none⟩), .int .i64 t] W fun e w' => ∃ v, e = .returned v ∧ OwnI w' W.heap.size v (whomR r.tab t) ∧ Below W.heap.size W w') := fun W hl => waitsFor_run hl hf hwf (by omega) (by omega)
  have HS := hid_l (Since.start h)
  have c0 := h.c0
  have hRl := h.lt
  have HBW := hid_l hbW
  clear hA hW h hg hf ho hp hs hbW htb hwd
  rcases hway with rfl | rfl | rfl
  · have HE : Hid (wayR 0 (doN 0 n) r t = if ringR r.tab t = true then abortR (doN 0 n) r t else r) := rfl
    go_enter Tryz.func114, Tryz.ntmps114
    go_wp2_with fail
    refine (HRI.out _ (HS.out.below HBW.out).run).mono ?_
    rintro e w1 ⟨rfl, hb1⟩
    have HB1 : Hid (Below w.heap.size w w1) := HBW.out.trans (hb1.mono HBW.out.size)
    have p0 : w1.cell? ⟨w.heap.size, 0, none⟩ = some (.int .i64 t) := (hb1.cell (p := ⟨w.heap.size, 0, none⟩) (by simp)).trans (by simp)
    clear hb1
    cases hr : ringR r.tab t with
    | true =>
      rw [hr] at HE
      have HE1 : Hid (wayR 0 (doN 0 n) r t = abortR (doN 0 n) r t) := HE.out
      clear hr HE
      go_wp2_with fail
      refine (HA.out _ (HS.out.below HB1.out).run).mono ?_
      rintro e w2 ⟨rfl, hst⟩
      have HST := hid_l hst
      clear hst p0
      go_wp2_with fail
      go_end0
      exact ⟨rfl, by rw [HE1.out]; exact LaneStep.later HB1.out HST.out⟩
    | false =>
      rw [hr] at HE
      have HE1 : Hid (wayR 0 (doN 0 n) r t = r) := HE.out
      clear hr HE
      go_wp2_with fail
      go_end0
      exact ⟨rfl, by rw [HE1.out]; exact (HS.out.below HB1.out).done⟩
  · have HE : Hid (wayR 1 (doN 1 n) r t = if ((whomR r.tab t).any fun x => decide (x < (t : Int))) = true then abortR (doN 1 n) r t else r) := by
      show wayR _ _ _ _ = _
      unfold wayR
      rw [if_neg (by decide), if_pos rfl]
      exact die_iff _ _ _ (whom_rise r.tab (t : Int))
    go_enter Tryz.func114, Tryz.ntmps114
    go_wp2_with fail
    refine (HWF.out _ (HS.out.below HBW.out).run).mono ?_
    rintro e w1 ⟨v1, rfl, hi1, hb1⟩
    have HB1 : Hid (Below w.heap.size w w1) := HBW.out.trans (hb1.mono HBW.out.size)
    have p0 : w1.cell? ⟨w.heap.size, 0, none⟩ = some (.int .i64 t) := (hb1.cell (p := ⟨w.heap.size, 0, none⟩) (by simp)).trans (by simp)
    obtain ⟨ad1, cp1, rfl, -⟩ := own_slice3 hi1
    have HOA := hid_l (older_any (whomR r.tab t) (.slice ad1 (whomR r.tab t).length cp1) t w.heap.size w1 hi1.ints hsix p0)
    clear hb1 hi1
    go_wp2_with fail
    refine HOA.out.mono ?_
    rintro e w2 ⟨rfl, hb2⟩
    have HB2 : Hid (Below w.heap.size w w2) := HB1.out.trans (hb2.mono HB1.out.size)
    have p1 : w2.cell? ⟨w.heap.size, 0, none⟩ = some (.int .i64 t) := (hb2.cell (p := ⟨w.heap.size, 0, none⟩) (World.block_lt_of_cell? w1 _ p0)).trans p0
    clear hb2 p0 HOA HB1
    cases hr : (whomR r.tab t).any fun x => decide (x < (t : Int)) with
    | true =>
      rw [hr] at HE
      have HE1 : Hid (wayR 1 (doN 1 n) r t = abortR (doN 1 n) r t) := HE.out
      clear hr HE
      go_wp2_with fail
      refine (HA.out _ (HS.out.below HB2.out).run).mono ?_
      rintro e w3 ⟨rfl, hst⟩
      have HST := hid_l hst
      clear hst p1
      go_wp2_with fail
      go_end0
      exact ⟨rfl, by rw [HE1.out]; exact LaneStep.later HB2.out HST.out⟩
    | false =>
      rw [hr] at HE
      have HE1 : Hid (wayR 1 (doN 1 n) r t = r) := HE.out
      clear hr HE
      go_wp2_with fail
      go_end0
      exact ⟨rfl, by rw [HE1.out]; exact (HS.out.below HB2.out).done⟩
  · have HE : Hid (wayR 2 (doN 2 n) r t = woundN (doN 2 n) t 7 r) := rfl
    go_enter Tryz.func114, Tryz.ntmps114
    go_wp2_with fail
    refine (HWD.out _ (HS.out.below HBW.out).run).mono ?_
    rintro e w1 ⟨rfl, hst⟩
    have HST := hid_l hst
    clear hst
    go_wp2_with fail
    go_end0
    exact ⟨rfl, by rw [HE.out]; exact LaneStep.later HBW.out HST.out⟩
theorem wm_wait {r : Runr} {P : Int → Option Op3} {o : Op3} (hp : P o.1 = none) (d : Int) : wm (wait0 r o) P d = setF (wm r P) o.1 (some (lockV (lkOf o))) d := by
  unfold wm wait0
  by_cases e : d = o.1
  · subst e
    simp only [setF_same]
    rw [if_pos ⟨trivial, hp⟩]
  · simp only [setF_other _ _ e]
set_option maxHeartbeats 16000000 in
set_option maxRecDepth 100000 in
theorem do_lane {way : Int} (hway : way = 0 ∨ way = 1 ∨ way = 2) {n : Nat} (hD : DoL way n) : DoL way (n + 1) := by
  intro R r c P o w h hg hf hp hs ho hnw hop
  have HF := hid_l (free_lane hD)
  have HAV := hid_l (avoid_lane hway (abort_lane (free_lane hD)) (wound_lane (abort_lane (free_lane hD))))
  obtain ⟨h1, h6⟩ := isOp_range hop
  have hwhat : o.2.1 = 1 ∨ o.2.1 = 2 ∨ o.2.1 = 3 ∨ o.2.1 = 4 := by simp [isOpB] at hop; omega
  have hP := hf.idle ho hnw
  have hol : ¬ 3 ≤ o.2.1 → isLock (lkOf o) = true := fun ha => op_lock hop ha
  have hcalm := hf.calm hnw
  obtain ⟨t, a, i⟩ := o
  simp only at h1 h6 ho hnw hwhat hP hcalm
  obtain ⟨dt, rfl⟩ : ∃ d : Nat, t = d := ⟨t.toNat, by omega⟩
  have HG : Hid (Good r ∧ Fits r P ∧ pot r ≤ 46 ∧ sum6 r.behind ≤ n ∧ r.out (dt : Int) = false ∧ r.waits (dt : Int) = false) := ⟨hg, hf, hp, by omega, ho, hnw⟩
  have HTB := hid_l (hg.tabs (by omega))
  have HDW : Hid (doN way (n + 1) r ((dt : Int), a, i) = doW way (doN way n) r ((dt : Int), a, i)) := rfl
  have HPN := hid_l hP
  have hRl := h.lt
  have hd1 : 1 ≤ dt := by omega
  have hd6 : dt ≤ 6 := by omega
  have HL := hid_l h
  clear hD hg hf hp hs ho hnw hop h h1 h6 hP
  go_enter Tryz.func82, Tryz.ntmps82
  go_upto_region 1 with (fail)
  obtain ⟨W, hW⟩ : ∃ W, W = w.alloc (.cells #[.int .i64 (dt : Int), .int .i64 a, .int .i64 i] 51) := ⟨_, rfl⟩
  rw [← hW]
  have hbx : LkBox W w.heap.size ((dt : Int), a, i) := by rw [hW]; exact lkBox_new _ _ _ _ _
  have hbW : Below w.heap.size w W := by rw [hW]; exact (Below.refl _ w).alloc (Nat.le_refl _) _
  obtain ⟨Q, hQ⟩ : ∃ Q, Q = w.heap.size := ⟨_, rfl⟩
  have HQF : Hid (¬ feet R c Q) := fun hk => by have := HL.out.feet_lt hk; omega
  have HSW := hid_l ((Since.start HL.out).below hbW)
  rw [← hQ] at hbx ⊢
  have HBX := hid_l hbx
  obtain ⟨p0, p1, p2⟩ := hbx
  simp only at p0 p1 p2
  have hPW : Q < W.heap.size := World.block_lt_of_cell? W _ p0
  clear hW hbW hQ hRl
  by_cases ha : 3 ≤ a
  · have HE : Hid (doW way (doN way n) r ((dt : Int), a, i) = freeR (doN way n) { r with told := r.told ++ [((dt : Int), a, i)] } (dt : Int)) := by show doW _ _ _ _ = _; unfold doW; rw [if_pos ha]
    have ha34 : a = 3 ∨ a = 4 := by omega
    clear hol hcalm hwhat ha
    rcases ha34 with rfl | rfl
    · skip
      go_wp2_with fail
      refine (tell_run ((dt : Int), 3, i) HSW.out.run HTB.out.2.2.1).mono ?_
      rintro e w1 ⟨rfl, hst1⟩
      have htu1 : Turns (feet R c) W w1 := by obtain ⟨_, _, h1, _⟩ := hst1; exact h1
      obtain ⟨p0, p1, p2⟩ := HBX.out.turn htu1 HQF.out
      simp only at p0 p1 p2
      obtain ⟨c1, hs1⟩ := HSW.out.step hst1
      have HS1 := hid_l hs1
      have HFB := hid_l ((HG.out.2.1.told (r.told ++ [((dt : Int), 3, i)])).but HG.out.2.2.2.2.2)
      have HFR := hid_l (HF.out R { r with told := r.told ++ [((dt : Int), 3, i)] } (wm r P) c1 P (dt : Int) w1 HS1.out.run (fun _ _ => rfl) HFB.out (free_good (tell_ok HG.out.1 _).1 _) HTB.out.1 HTB.out.2.1 (by omega) (by omega) (by rw [(tell_ok HG.out.1 _).2]; have := HG.out.2.2.1; omega) HG.out.2.2.2.1)
      clear htu1 hst1 hs1
      go_wp2_with fail
      refine HFR.out.mono ?_
      rintro e w2 ⟨rfl, hst2⟩
      obtain ⟨c2, hs2⟩ := HS1.out.step hst2
      have HS2 := hid_l hs2
      clear hst2 hs2 p0 p1 p2
      go_wp2_with fail
      refine bodyPost_ret (results_none Tryz.results82 _ _ _) rfl ⟨rfl, ?_⟩
      rw [HDW.out, HE.out]
      exact HS2.out.done
    · skip
      go_wp2_with fail
      refine (tell_run ((dt : Int), 4, i) HSW.out.run HTB.out.2.2.1).mono ?_
      rintro e w1 ⟨rfl, hst1⟩
      have htu1 : Turns (feet R c) W w1 := by obtain ⟨_, _, h1, _⟩ := hst1; exact h1
      obtain ⟨p0, p1, p2⟩ := HBX.out.turn htu1 HQF.out
      simp only at p0 p1 p2
      obtain ⟨c1, hs1⟩ := HSW.out.step hst1
      have HS1 := hid_l hs1
      have HFB := hid_l ((HG.out.2.1.told (r.told ++ [((dt : Int), 4, i)])).but HG.out.2.2.2.2.2)
      have HFR := hid_l (HF.out R { r with told := r.told ++ [((dt : Int), 4, i)] } (wm r P) c1 P (dt : Int) w1 HS1.out.run (fun _ _ => rfl) HFB.out (free_good (tell_ok HG.out.1 _).1 _) HTB.out.1 HTB.out.2.1 (by omega) (by omega) (by rw [(tell_ok HG.out.1 _).2]; have := HG.out.2.2.1; omega) HG.out.2.2.2.1)
      clear htu1 hst1 hs1
      go_wp2_with fail
      refine HFR.out.mono ?_
      rintro e w2 ⟨rfl, hst2⟩
      obtain ⟨c2, hs2⟩ := HS1.out.step hst2
      have HS2 := hid_l hs2
      clear hst2 hs2 p0 p1 p2
      go_wp2_with fail
      refine bodyPost_ret (results_none Tryz.results82 _ _ _) rfl ⟨rfl, ?_⟩
      rw [HDW.out, HE.out]
      exact HS2.out.done
  · have ha12 : ((dt : Int), a, i).2.1 = 1 ∨ ((dt : Int), a, i).2.1 = 2 := by show a = 1 ∨ a = 2; omega
    have hlk := hol ha
    have hna3 : (a == 3) = false := by simp; omega
    have hna4 : (a == 4) = false := by simp; omega
    have HLO : Hid (Calls Tryz.prog 112 #[.agg #[.int .i64 (dt : Int), .int .i64 a, .int .i64 i]] W fun e w' => e = .returned (.agg #[.int .i64 (dt : Int), .int .i64 i, .int .i64 a]) ∧ Below W.heap.size W w') := lockOf_run ((dt : Int), a, i) ha12 W
    have HLK := hid_l hlk
    have HCM := hid_l hcalm
    have HNA := hid_l ha
    clear hol hcalm hwhat ha12 hlk
    go_wp2_with fail
    refine HLO.out.mono ?_
    rintro e w1 ⟨rfl, hb1⟩
    have HS1 := hid_l (HSW.out.below hb1)
    have HB1 := hid_l (HBX.out.below hb1)
    clear hb1 p0 p1 p2 hPW HSW HBX HLO ha
    go_upto_region 5 with (fail)
    obtain ⟨V, hV⟩ : ∃ V, V = w1.alloc (.cells #[.int .i64 (dt : Int), .int .i64 i, .int .i64 a] 166) := ⟨_, rfl⟩
    rw [← hV]
    have hbV : Below w1.heap.size w1 V := by rw [hV]; exact (Below.refl _ w1).alloc (Nat.le_refl _) _
    have hbx2 : LkBox V w1.heap.size ((dt : Int), i, a) := by rw [hV]; exact lkBox_new _ _ _ _ _
    obtain ⟨Q2, hQ2⟩ : ∃ Q, Q = w1.heap.size := ⟨_, rfl⟩
    have HQ2 : Hid (¬ feet R c Q2) := fun hk => by have := HS1.out.run.feet_lt hk; omega
    have HSV := hid_l (HS1.out.below hbV)
    have HBV := hid_l (HB1.out.below hbV)
    rw [← hQ2] at hbx2 ⊢
    have HBY := hid_l hbx2
    obtain ⟨q0, q1, q2⟩ := hbx2
    simp only at q0 q1 q2
    obtain ⟨p0, p1, p2⟩ := HBV.out
    simp only at p0 p1 p2
    have hQV : Q2 < V.heap.size := World.block_lt_of_cell? V _ q0
    have hPV : Q < V.heap.size := World.block_lt_of_cell? V _ p0
    have k1 := HSV.out.run.c1
    clear hV hbV hQ2
    obtain ⟨F1, hask⟩ : ∃ F1 : Unit, True := ⟨(), trivial⟩
    have HASK : Hid (Calls Tryz.prog 113 #[.pointer (some ⟨c.T, 0, none⟩), .agg #[.int .i64 (dt : Int), .int .i64 i, .int .i64 a]] V.drew fun e w' => e = .returned (.tuple #[.bool (askT r.tab ((dt : Int), i, a)).1.1, .nilIface]) ∧ Turns (feet R c) V w' ∧ ∃ c2, (∀ k, feet R c2 k → feet R c k ∨ V.heap.size ≤ k) ∧ LaneAt w' R way { r with tab := (askT r.tab ((dt : Int), i, a)).2 } (wm r P) c2) := by
      have hl0 := HSV.out.run.below (Below.refl _ V).drew
      refine (locksQ.ask V.drew c.T c.F r.tab ((dt : Int), i, a) hl0.tab (by have := HTB.out.1; omega) (by have := HTB.out.2.1; omega)).mono ?_
      rintro e w' ⟨rfl, F', h1, h2, h3⟩
      obtain ⟨c2, a1, a2, a3⟩ := hl0.setTab h1 h2 h3
      have he : (askT r.tab ((dt : Int), i, a)).1.2 = 0 := by
        rcases ask_new (s := r.tab) (x := ((dt : Int), i, a)) HLK.out HCM.out with ⟨_, _, h4⟩ | h4
        · exact h4
        · rw [h4]
      refine ⟨by rw [he]; rfl, ⟨a2.os, a2.tape, a2.output, a2.size, a2.block⟩, c2, a3, a1⟩
    clear hask F1
    go_region_with (first | (go_at_call 113; refine HASK.out.mono ?_; rintro e w2 ⟨rfl, ht2, c2, hf2, hl2⟩))
    all_goals
      have HP2 := hid_l (HBV.out.turn ht2 HQF.out)
      have HY2 := hid_l (HBY.out.turn ht2 HQ2.out)
      have HS2 := hid_l (HSV.out.to hl2 ht2 hf2)
      have HNQ : Hid (¬ feet R c2 Q ∧ ¬ feet R c2 Q2) := ⟨fun hk => (hf2 Q hk).elim HQF.out fun h => by omega, fun hk => (hf2 Q2 hk).elim HQ2.out fun h => by omega⟩
      clear ht2 hf2 hl2 q0 q1 q2 p0 p1 p2 k1 hQV hPV HASK HSV HBV HBY HS1 HB1
      obtain ⟨p0, p1, p2⟩ := HP2.out
      obtain ⟨q0, q1, q2⟩ := HY2.out
      simp only at p0 p1 p2 q0 q1 q2
      rcases ask_new (s := r.tab) (x := ((dt : Int), i, a)) HLK.out HCM.out with ⟨h4, h5, _⟩ | h4
      · have HE : Hid (doW way (doN way n) r ((dt : Int), a, i) = { r with tab := (askT r.tab ((dt : Int), i, a)).2, told := r.told ++ [((dt : Int), a, i)] }) := by
          show doW _ _ _ _ = _
          unfold doW
          rw [if_neg (show ¬ (3 : Int) ≤ a by have := HNA.out; omega), if_pos (show (askT r.tab ((dt : Int), i, a)).1.1 = true from h4)]
        rw [h4]
        clear h4 h5
        go_wp2_with fail
        refine (tell_run ((dt : Int), a, i) HS2.out.run HTB.out.2.2.1).mono ?_
        rintro e w3 ⟨rfl, hst3⟩
        obtain ⟨c3, hs3⟩ := HS2.out.step hst3
        have HS3 := hid_l hs3
        clear hst3 hs3 p0 p1 p2 q0 q1 q2
        go_wp2_with fail
        refine bodyPost_ret (results_none Tryz.results82 _ _ _) rfl ⟨rfl, ?_⟩
        rw [HDW.out, HE.out]
        exact HS3.out.done
      · have HE : Hid (doW way (doN way n) r ((dt : Int), a, i) = wayR way (doN way n) (wait0 r ((dt : Int), a, i)) (dt : Int)) := by
          show doW _ _ _ _ = _
          unfold doW
          rw [if_neg (show ¬ (3 : Int) ≤ a by have := HNA.out; omega), if_neg (show ¬ (askT r.tab ((dt : Int), i, a)).1.1 = true by rw [h4]; simp)]
        have HFW := hid_l (HG.out.2.1.wait (o := ((dt : Int), a, i)) HG.out.2.2.2.2.1 HG.out.2.2.2.2.2 HLK.out h4)
        obtain ⟨hgw, hpw⟩ := wait_ok (o := ((dt : Int), a, i)) HG.out.1 HG.out.2.2.2.2.1 HG.out.2.2.2.2.2 (show (1 : Int) ≤ (dt : Int) by omega) (show (dt : Int) ≤ 6 by omega)
        have HGW : Hid (Good (wait0 r ((dt : Int), a, i)) ∧ pot (wait0 r ((dt : Int), a, i)) ≤ 47) := ⟨hgw, by have := HG.out.2.2.1; omega⟩
        rw [show (askT r.tab ((dt : Int), i, a)).1.1 = false by rw [h4]]
        have k4 := HS2.out.run.c4
        obtain ⟨m4, hm4⟩ := HS2.out.run.wts
        have hm4' : MapIs w2.drew c2.W (wm r P) m4 := hm4
        obtain ⟨X, hup, hmX, htX⟩ := hm4'.store (v := .agg #[.int .i64 (dt : Int), .int .i64 i, .int .i64 a]) Tryz.underlying88 (show (1 : Int) ≤ (dt : Int) by omega) (show (dt : Int) ≤ 6 by omega)
        have htX2 : Turns (fun k => k = c2.W) w2 X := ⟨htX.os, htX.tape, htX.output, htX.size, htX.block⟩
        have hWQ : c2.W ≠ Q := fun e => HNQ.out.1 ⟨4, by omega, e.symm⟩
        have d0 : X.cell? ⟨Q, 0, none⟩ = some (.int .i64 (dt : Int)) := (htX2.cell (p := ⟨Q, 0, none⟩) (World.block_lt_of_cell? w2 _ p0) (Ne.symm hWQ)).trans p0
        obtain ⟨c3, hs3⟩ := HS2.out.step (HS2.out.run.setWts hmX htX2)
        have hwm : ∀ d, wm (wait0 r ((dt : Int), a, i)) P d = setF (wm r P) (dt : Int) (some (.agg #[.int .i64 (dt : Int), .int .i64 i, .int .i64 a])) d := fun d => wm_wait (o := ((dt : Int), a, i)) HPN.out d
        have HS3 : Hid (Since w X R way c (wait0 r ((dt : Int), a, i)) (wm (wait0 r ((dt : Int), a, i)) P) c3) := ⟨(hs3.run.as (r1 := wait0 r ((dt : Int), a, i)) rfl rfl rfl rfl).congr hwm, hs3.turn, hs3.feet⟩
        have HAW := hid_l (HAV.out R (wait0 r ((dt : Int), a, i)) c3 P dt X HS3.out.run HGW.out.1 HFW.out hd1 hd6 HG.out.2.2.2.2.1 HGW.out.2 HG.out.2.2.2.1)
        have hRw := HS2.out.run.lt
        clear h4 hgw hpw hm4 hm4' hmX htX htX2 hWQ hs3 hwm HS2
        go_wp2_with fail
        go_region
        all_goals
          go_wp2_with fail
          refine HAW.out.mono ?_
          rintro e w4 ⟨rfl, hst4⟩
          obtain ⟨c4, hs4⟩ := HS3.out.step hst4
          have HS4 := hid_l hs4
          clear hst4 hs4 d0 p0 p1 p2 q0 q1 q2
          go_wp2_with fail
          go_end0
          exact ⟨rfl, by rw [HDW.out, HE.out]; exact HS4.out.done⟩
theorem do_lanes {way : Int} (hway : way = 0 ∨ way = 1 ∨ way = 2) : ∀ n, DoL way n := by
  intro n
  induction n with
  | zero => intro R r c P o w _ _ _ _ hs; omega
  | succ n ih => exact do_lane hway ih
end Go.Proofs.YtccjognnehoodahGreat
