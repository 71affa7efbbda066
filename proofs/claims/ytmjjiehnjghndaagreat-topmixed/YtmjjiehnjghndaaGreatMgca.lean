/-
  PROVED HERE: slices.IndexFunc and slices.ContainsFunc over a slice of whole numbers, for any closure; strict.lane's two closures (is it older, is it younger). Old memory stays as it was.
  Conditions: what the closure answers is a premise.
  PROVED HERE: strict.lane's methods abort and wound, over a run in memory, if free does what chapter 9 says.
  Conditions: what free does is a premise.
-/
import Derived.Test.YtmjjiehnjghndaaGreatMgae
import Derived.Test.YtmjjiehnjghndaaGreatMgbm
import Derived.Test.YtmjjiehnjghndaaGreatMgbz
namespace Go.Proofs.YtmjjiehnjghndaaGreat
open Go.RowKit

theorem noneI_snoc {q : Int → Bool} {l : List Int} {k : Nat} {e : Int} (h : l.take (k + 1) = l.take k ++ [e]) (h1 : (l.take k).any q = false) (h2 : q e = false) : (l.take (k + 1)).any q = false := by
  rw [h, List.any_append, h1]; simp [h2]
/-- What IndexFunc answers. -/
def FirstI (l : List Int) (q : Int → Bool) (n : Int) : Prop := (n = -1 ∧ l.any q = false) ∨ ∃ k : Nat, n = k ∧ k < l.length ∧ q (l.getD k 0) = true ∧ (l.take k).any q = false
theorem getD_memL {l : List Int} {k : Nat} (h : k < l.length) : l.getD k 0 ∈ l := by simp [List.getD, h]
theorem FirstI.sign {l : List Int} {q : Int → Bool} {n : Int} (h : FirstI l q n) : decide (0 ≤ n) = l.any q := by
  rcases h with ⟨rfl, h⟩ | ⟨k, rfl, hk, hq, _⟩
  · rw [h]; rfl
  · have : l.any q = true := List.any_eq_true.2 ⟨_, getD_memL hk, hq⟩
    rw [this]; simp
theorem FirstI.none {l : List Int} {q : Int → Bool} (h : l.any q = false) : FirstI l q (-1) := .inl ⟨rfl, h⟩
theorem FirstI.some {l : List Int} {q : Int → Bool} {k : Nat} {e : Int} (hk : k < l.length) (he : l.getD k 0 = e) (hq : q e = true) (h : (l.take k).any q = false) : FirstI l q (k : Int) := .inr ⟨k, rfl, hk, by rw [he]; exact hq, h⟩
set_option maxHeartbeats 4000000 in
theorem index_int (l : List Int) (v : Value) (q : Int → Bool) (N : Nat) (C : Array Value) (w : World) (hcall : ∀ (args : Array Value) (W : World), (callFunc N args).run Tryz.prog W = .ok (.enter N args) W) (hI : IsInts w v l) (hlen : l.length ≤ 140737488351)
    (hp : ∀ W : World, Below w.heap.size w W → ∀ e ∈ l, Calls Tryz.prog N (#[.int .i64 e] ++ C) W fun r w' => r = .returned (.bool (q e)) ∧ Below W.heap.size W w') :
    Calls Tryz.prog 49 #[v, .func (.func N) #[] C] w fun r w' => ∃ n : Int, r = .returned (.int .i64 n) ∧ FirstI l q n ∧ Below w.heap.size w w' := by
  have HI2 : Hid (IsInts w v l) := hI
  obtain ⟨ad, b, off, cap, rfl, ha, _, hbB, hops⟩ := hI
  have HO : Hid (∀ W, Below w.heap.size w W → ∀ k, k < l.length → ad = some ⟨b, off, none⟩ ∧ W.cell? ⟨b, off + k, none⟩ = some (.int .i64 (l.getD k 0))) := fun W hW k hk => ⟨ha (by omega), by
    have hb : b < w.heap.size := by
      rcases hbB with h | h
      · exact h
      · subst h; simp at hk
    exact (hW.cell (p := ⟨b, off + k, none⟩) hb).trans (hops k hk)⟩
  have HP : Hid (∀ W : World, Below w.heap.size w W → ∀ e ∈ l, Calls Tryz.prog N (#[.int .i64 e] ++ C) W fun r w' => r = .returned (.bool (q e)) ∧ Below W.heap.size W w') := hp
  clear ha hbB hops hp HI2
  go_enter Tryz.func49, Tryz.ntmps49
  go_wp2
  go_loopw [8] (fun v8 wr => ∃ k : Nat, k ≤ l.length ∧ v8 = .int .i64 k ∧ (l.take k).any q = false ∧ Below w.heap.size w wr) (fun v8 _ => l.length - (intOf v8).toNat)
  case atStart => exact ⟨0, Nat.zero_le _, rfl, by simp, Below.refl _ _⟩
  case round =>
    obtain ⟨k, hk, rfl, hno, hbel⟩ := hrel
    have HNO : Hid ((l.take k).any q = false) := hno
    clear hno
    have hsz := hbel.size
    by_cases hlt : k < l.length
    · have hlt' : (k : Int) < (l.length : Int) := by omega
      obtain ⟨rfl, c0⟩ := HO.out wr hbel k hlt
      obtain ⟨t, ho⟩ : ∃ o : Int, l.getD k 0 = o := ⟨_, rfl⟩
      rw [ho] at c0
      have hmem : t ∈ l := by rw [← ho]; exact getD_memL hlt
      have HT : Hid (l.take (k + 1) = l.take k ++ [t]) := by
        show l.take (k + 1) = l.take k ++ [t]
        rw [List.take_succ_eq_append_getElem hlt, ← ho]; simp [List.getD, List.getElem?_eq_getElem hlt]
      have HM : Hid (t ∈ l) := hmem
      have HG : Hid (l.getD k 0 = t) := ho
      clear ho HO hmem
      cases hq : q t with
      | false =>
        have HQ : Hid (q t = false) := hq
        have HC : Hid (Calls Tryz.prog N (#[.int .i64 t] ++ C) wr fun r w' => r = .returned (.bool false) ∧ Below wr.heap.size wr w') := hq ▸ HP.out wr hbel _ HM.out
        clear hq
        go_wp2_with fail
        refine HC.out.mono ?_
        rintro e w1 ⟨rfl, hb1⟩
        go_wp2_with fail
        go_roundw
        case rel => exact ⟨k + 1, by omega, by go_num, noneI_snoc HT.out HNO.out HQ.out, hbel.trans (hb1.mono hsz)⟩
        case measure => simp [intOf]; omega
      | true =>
        have HQ : Hid (q t = true) := hq
        have HC : Hid (Calls Tryz.prog N (#[.int .i64 t] ++ C) wr fun r w' => r = .returned (.bool true) ∧ Below wr.heap.size wr w') := hq ▸ HP.out wr hbel _ HM.out
        clear hq
        go_wp2_with fail
        refine HC.out.mono ?_
        rintro e w1 ⟨rfl, hb1⟩
        go_wp2_with fail
        go_ret
        exact ⟨_, rfl, FirstI.some hlt HG.out HQ.out HNO.out, hbel.trans (hb1.mono hsz)⟩
    · have hlt' : ¬ (k : Int) < (l.length : Int) := by omega
      go_wp2_with fail
      go_ret
      refine ⟨_, rfl, FirstI.none ?_, hbel⟩
      have h0 := HNO.out
      rw [List.take_of_length_le (by omega)] at h0
      exact h0
theorem contains_int (l : List Int) (v : Value) (q : Int → Bool) (N : Nat) (C : Array Value) (w : World) (hcall : ∀ (args : Array Value) (W : World), (callFunc N args).run Tryz.prog W = .ok (.enter N args) W) (hI : IsInts w v l) (hlen : l.length ≤ 140737488351)
    (hp : ∀ W : World, Below w.heap.size w W → ∀ e ∈ l, Calls Tryz.prog N (#[.int .i64 e] ++ C) W fun r w' => r = .returned (.bool (q e)) ∧ Below W.heap.size W w') :
    Calls Tryz.prog 83 #[v, .func (.func N) #[] C] w fun r w' => r = .returned (.bool (l.any q)) ∧ Below w.heap.size w w' := by
  have HC : Hid (Calls Tryz.prog 49 #[v, .func (.func N) #[] C] w fun r w' => ∃ n : Int, r = .returned (.int .i64 n) ∧ FirstI l q n ∧ Below w.heap.size w w') := index_int l v q N C w hcall hI hlen hp
  clear hp hI hcall
  go_enter Tryz.func83, Tryz.ntmps83
  go_wp2_with (go_at_call 49; refine HC.out.mono ?_; rintro e w1 ⟨n, rfl, hn, hb1⟩; have hn1 := hn.sign; clear hn)
  all_goals go_ret
  all_goals exact ⟨ret_bool (by simp_all), hb1⟩
theorem older_fn (e t : Int) (P : Nat) (w : World) (h : w.cell? ⟨P, 0, none⟩ = some (.int .i64 t)) : Calls Tryz.prog 82 (#[.int .i64 e] ++ #[.pointer (some ⟨P, 0, none⟩)]) w fun r w' => r = .returned (.bool (decide (e < t))) ∧ Below w.heap.size w w' := by
  go_enter Tryz.func82, Tryz.ntmps82
  go_wp2
  go_ret
  exact ⟨rfl, Below.refl _ _⟩
theorem younger_fn (e t : Int) (P : Nat) (w : World) (h : w.cell? ⟨P, 0, none⟩ = some (.int .i64 t)) : Calls Tryz.prog 106 (#[.int .i64 e] ++ #[.pointer (some ⟨P, 0, none⟩)]) w fun r w' => r = .returned (.bool (decide (t < e))) ∧ Below w.heap.size w w' := by
  go_enter Tryz.func106, Tryz.ntmps106
  go_wp2
  go_ret
  exact ⟨rfl, Below.refl _ _⟩
theorem call_older : ∀ (args : Array Value) (W : World), (callFunc 82 args).run Tryz.prog W = .ok (.enter 82 args) W := fun args W => by kernel_rfl
theorem call_younger : ∀ (args : Array Value) (W : World), (callFunc 106 args).run Tryz.prog W = .ok (.enter 106 args) W := fun args W => by kernel_rfl
/-- Is one of them older? -/
theorem older_any (l : List Int) (v : Value) (t : Int) (P : Nat) (w : World) (hI : IsInts w v l) (hlen : l.length ≤ 6) (h : w.cell? ⟨P, 0, none⟩ = some (.int .i64 t)) :
    Calls Tryz.prog 83 #[v, .func (.func 82) #[] #[.pointer (some ⟨P, 0, none⟩)]] w fun r w' => r = .returned (.bool (l.any fun x => decide (x < t))) ∧ Below w.heap.size w w' :=
  contains_int l v _ _ _ w call_older hI (by omega) fun W hW e _ => older_fn e t P W ((hW.cell (p := ⟨P, 0, none⟩) (World.block_lt_of_cell? w _ h)).trans h)
/-- Which of them is younger first? -/
theorem younger_any (l : List Int) (v : Value) (t : Int) (P : Nat) (w : World) (hI : IsInts w v l) (hlen : l.length ≤ 6) (h : w.cell? ⟨P, 0, none⟩ = some (.int .i64 t)) :
    Calls Tryz.prog 49 #[v, .func (.func 106) #[] #[.pointer (some ⟨P, 0, none⟩)]] w fun r w' => ∃ n : Int, r = .returned (.int .i64 n) ∧ FirstI l (fun x => decide (t < x)) n ∧ Below w.heap.size w w' :=
  index_int l v _ _ _ w call_younger hI (by omega) fun W hW e _ => younger_fn e t P W ((hW.cell (p := ⟨P, 0, none⟩) (World.block_lt_of_cell? w _ h)).trans h)
end Go.Proofs.YtmjjiehnjghndaaGreat

namespace Go.Proofs.YtmjjiehnjghndaaGreat
open Go.RowKit

def AbortL (way : Int) (n : Nat) : Prop := ∀ (R : Nat) (r : Runr) (c : Lay) (P : Int → Option Op3) (d : Int) (w : World), LaneAt w R way r (wm r P) c → Good r → Fits r P → 1 ≤ d → d ≤ 6 → r.out d = false → pot r ≤ 47 → sum6 r.behind ≤ n →
  Calls Tryz.prog 81 #[.pointer (some ⟨R, 0, none⟩), .int .i64 d] w fun e w' => e = .returned (.tuple #[]) ∧ LaneStep w w' R way c (abortR (doN way n) r d) (wm (abortR (doN way n) r d) P)
theorem wm_abort {r : Runr} {P : Int → Option Op3} {t d : Int} (h : d ≠ t) : wm r P d = wm (abort0 r t) P d := by
  unfold wm abort0
  simp only [setF_other _ _ h]
set_option maxHeartbeats 8000000 in
set_option maxRecDepth 100000 in
theorem abort_lane {way : Int} {n : Nat} (hF : FreeL way n) : AbortL way n := by
  intro R r c P d w h hg hf h1 h6 ho hp hs
  have HF := hid_l hF
  have HTB := hid_l (hg.tabs hp)
  have HAG := hid_l (abort_good hg h1 h6 ho)
  have HAP : Hid (pot (abort0 r d) ≤ 47 ∧ sum6 (abort0 r d).behind ≤ n) := ⟨Nat.le_trans (abort0_pot h1 h6 ho) hp, Nat.le_trans (abort0_sum r _) hs⟩
  have HFB := hid_l (hf.abort ho)
  have hwf : Wf d := wf_deal h1 h6
  have hv : d ∉ r.vict := fun hm => by rw [(hf.vict d).2 hm] at ho; cases ho
  have HS := hid_l (Since.start h)
  have c3 := h.c3
  have HM3 := hid_l h.outs
  have HVS : Hid (∀ y, victF (r.vict ++ [d]) y = setF (victF r.vict) d (some (.int .i64 (r.vict.length : Int))) y) := fun y => victF_snoc hv y
  have HVN : Hid ((victF r.vict d).isSome = false) := by show _ = false; rw [victF_some, decide_eq_false hv]
  clear hF hg hf ho hp hs hv h
  go_enter Tryz.func81, Tryz.ntmps81
  go_wp2_with (first | (at_len; refine wp_len _ rfl (.tmp 8) 50 rfl 3 Tryz.underlying50 c.A r.vict.length (victF r.vict) rfl HM3.out ?_) | (at_mapUpdate; refine wp_store _ rfl (.tmp 13) (.tmp 14) (.tmp 15) 50 rfl 3 Tryz.underlying50 c.A r.vict.length (victF r.vict) rfl HM3.out d (.int .i64 (r.vict.length : Int)) rfl rfl h1 h6 ?_; intro w1 hm1 ht1))
  have hst1 := HS.out.run.setOuts (l := r.vict ++ [d]) (by
    have h2 := hm1
    rw [HVN.out] at h2
    have h3 := MapIs.congr h2 HVS.out
    rw [List.length_append, List.length_singleton]
    exact h3) ht1
  obtain ⟨c1, hs1⟩ := HS.out.step hst1
  have HS1 := hid_l hs1
  clear hm1 ht1 hst1 hs1 c3 HM3 HS
  go_wp2_with fail
  refine (tell_run (d, 4, 0) HS1.out.run HTB.out.2.2.1).mono ?_
  rintro e w2 ⟨rfl, hst2⟩
  obtain ⟨c2, hs2⟩ := HS1.out.step hst2
  have HS2 := hid_l hs2
  obtain ⟨m5, hm5⟩ := hs2.run.beh
  have HM5 := hid_l hm5
  have c5 := hs2.run.c5
  clear hst2 hs2 hm5 HS1
  go_wp2_with (at_delete; refine wp_drop _ rfl (.tmp 23) (.tmp 24) 52 rfl 22 Tryz.underlying52 c2.B m5 c2.h rfl HM5.out d rfl hwf ?_; intro w3 m3 hm3 ht3)
  obtain ⟨dn, rfl⟩ : ∃ k : Nat, d = k := ⟨d.toNat, by omega⟩
  obtain ⟨c3, hs3⟩ := HS2.out.step (HS2.out.run.dropBeh (d := dn) (by omega) hm3 ht3)
  have HS3 : Hid (LaneAt w3 R way (abort0 r (dn : Int)) (wm r P) c3) := hs3.run.as rfl rfl rfl rfl
  have HST : Hid (Turns (feet R c) w w3 ∧ ∀ k, feet R c3 k → feet R c k ∨ w.heap.size ≤ k) := ⟨hs3.turn, hs3.feet⟩
  clear hm3 ht3 hs3 c5 HS2 HM5
  go_wp2_with fail
  refine (HF.out R (abort0 r (dn : Int)) (wm r P) c3 P (dn : Int) w3 HS3.out (fun e he => wm_abort he) HFB.out HAG.out HTB.out.1 HTB.out.2.1 h1 h6 HAP.out.1 HAP.out.2).mono ?_
  rintro e w4 ⟨rfl, hst4⟩
  have HS4 := hid_l hst4
  clear hst4
  go_wp2_with fail
  go_end0
  exact ⟨rfl, LaneStep.trans HST.out.1 HST.out.2 HS4.out⟩
/-- How many deals are not aborted, as memory has it. -/
theorem live_mu (R : Nat) : ∃ mu : World → Nat, ∀ {w : World} {way : Int} {r : Runr} {g : Int → Option Value} {c : Lay} {P : Int → Option Op3}, LaneAt w R way r g c → Fits r P → mu w = cnt6 fun d => !r.out d := by
  obtain ⟨f, hf⟩ : ∃ f : World → Nat → Nat, ∀ w d, f w d = (match w.cell? ⟨R, 3, none⟩ with
    | some m => (match (Instr.lookup 50 m (.int .i64 d) true).run Tryz.prog w with | .ok (.tuple a) _ => (match a.toList with | [_, Value.bool false] => 1 | _ => 0) | _ => 0)
    | none => 0) := ⟨_, fun _ _ => rfl⟩
  refine ⟨fun w => f w 1 + f w 2 + f w 3 + f w 4 + f w 5 + f w 6, ?_⟩
  intro w way r g c P h hfit
  have h1 : ∀ d : Nat, 1 ≤ d → d ≤ 6 → f w d = (!r.out (d : Int)).toNat := fun d h1 h6 => by
    rw [hf, h.c3]
    simp only [h.outs.look true Tryz.underlying50 (zero_int w) (wf_deal (x := (d : Int)) (by omega) (by omega)), if_true, victF_some]
    cases ho : r.out (d : Int) with
    | true => rw [decide_eq_true ((hfit.vict _).1 ho)]; rfl
    | false => rw [decide_eq_false (fun hm => by rw [(hfit.vict _).2 hm] at ho; cases ho)]; rfl
  dsimp only
  unfold cnt6
  rw [h1 1 (by omega) (by omega), h1 2 (by omega) (by omega), h1 3 (by omega) (by omega), h1 4 (by omega) (by omega), h1 5 (by omega) (by omega), h1 6 (by omega) (by omega)]
  rfl
def WoundL (way : Int) (n : Nat) : Prop := ∀ (R : Nat) (r : Runr) (c : Lay) (P : Int → Option Op3) (t : Int) (w : World), LaneAt w R way r (wm r P) c → Good r → Fits r P → 1 ≤ t → t ≤ 6 → pot r ≤ 47 → sum6 r.behind ≤ n →
  Calls Tryz.prog 85 #[.pointer (some ⟨R, 0, none⟩), .int .i64 t] w fun e w' => e = .returned (.tuple #[]) ∧ LaneStep w w' R way c (woundN (doN way n) t 7 r) (wm (woundN (doN way n) t 7 r) P)
theorem first_young {s : Tab2} {t : Int} {k : Nat} (hk : k < (whomR s t).length) (hq : decide (t < (whomR s t).getD k 0) = true) (hn : ((whomR s t).take k).any (fun x => decide (t < x)) = false) : youngR s t = some ((whomR s t).getD k 0) := by
  refine young_hit hk rfl (fun i hi hlt => ?_) (by simpa using hq)
  have hm : (whomR s t).getD i 0 ∈ (whomR s t).take k := by
    rw [List.mem_iff_getElem]
    exact ⟨i, by simp; omega, by simp [List.getD, List.getElem?_eq_getElem (show i < (whomR s t).length by omega)]⟩
  have := List.any_eq_false.1 hn _ hm
  exact this (by simpa using hlt)
theorem none_young {s : Tab2} {t : Int} (h : (whomR s t).any (fun x => decide (t < x)) = false) : youngR s t = none := by
  refine young_none fun i hi hlt => ?_
  have := List.any_eq_false.1 h _ (getD_memL hi)
  exact this (by simpa using hlt)
set_option maxHeartbeats 8000000 in
set_option maxRecDepth 100000 in
theorem wound_lane {way : Int} {n : Nat} (hA : AbortL way n) : WoundL way n := by
  intro R r c P t w h hg hf h1 h6 hp hs
  obtain ⟨mu, hmu⟩ := live_mu R
  have HMU : Hid (∀ {w : World} {way : Int} {r : Runr} {g : Int → Option Value} {c : Lay} {P : Int → Option Op3}, LaneAt w R way r g c → Fits r P → mu w = cnt6 fun d => !r.out d) := hmu
  clear hmu
  have HA := hid_l hA
  have HDO := hid_l (doN_ok way n)
  have HDF := hid_l (doN_fits way n)
  have hwf : Wf t := wf_deal h1 h6
  obtain ⟨TG, hTG⟩ : ∃ TG, woundN (doN way n) t 7 r = TG := ⟨_, rfl⟩
  rw [hTG]
  have hlv : (cnt6 fun d => !r.out d) + 1 ≤ 7 := by have := hg.vict; omega
  have HST : Hid (Since w w R way c r (wm r P) c ∧ Good r ∧ Fits r P ∧ pot r ≤ 47 ∧ sum6 r.behind ≤ n ∧ woundN (doN way n) t 7 r = TG ∧ (cnt6 fun d => !r.out d) + 1 ≤ 7) := ⟨Since.start h, hg, hf, hp, hs, hTG, hlv⟩
  clear hA h hg hf hp hs hTG hlv
  go_enter Tryz.func85, Tryz.ntmps85
  go_wp2_with fail
  obtain ⟨W, hW⟩ : ∃ W, W = w.alloc (.cells #[.int .i64 t] 3) := ⟨_, rfl⟩
  rw [← hW]
  have hbW : Below w.heap.size w W := by rw [hW]; exact (Below.refl _ w).alloc (Nat.le_refl _) _
  have p0 : W.cell? ⟨w.heap.size, 0, none⟩ = some (.int .i64 t) := by rw [hW]; simp
  have hnf : ¬ feet R c w.heap.size := fun hk => by have := HST.out.1.run.feet_lt hk; omega
  obtain ⟨Q, hQ⟩ : ∃ Q, Q = w.heap.size := ⟨_, rfl⟩
  rw [← hQ] at p0 hnf ⊢
  have HS0 : Hid (∃ (m : Nat) (rm : Runr) (cm : Lay), Since w W R way c rm (wm rm P) cm ∧ W.cell? ⟨Q, 0, none⟩ = some (.int .i64 t) ∧ ¬ feet R cm Q ∧ Good rm ∧ Fits rm P ∧ pot rm ≤ 47 ∧ sum6 rm.behind ≤ n ∧ woundN (doN way n) t m rm = TG ∧ (cnt6 fun d => !rm.out d) + 1 ≤ m) := ⟨7, r, c, HST.out.1.below hbW, p0, hnf, HST.out.2⟩
  clear hW hbW p0 hnf hQ HST
  go_loopw [5] (fun _ wr => ∃ (m : Nat) (rm : Runr) (cm : Lay), Since w wr R way c rm (wm rm P) cm ∧ wr.cell? ⟨Q, 0, none⟩ = some (.int .i64 t) ∧ ¬ feet R cm Q ∧ Good rm ∧ Fits rm P ∧ pot rm ≤ 47 ∧ sum6 rm.behind ≤ n ∧ woundN (doN way n) t m rm = TG ∧ (cnt6 fun d => !rm.out d) + 1 ≤ m) (fun _ wr => mu wr)
  case atStart => exact HS0.out
  case round =>
    obtain ⟨m, rm, cm, hsi, hq0, hnf, hgood, hfits, hpot, hsum, hwo, hlv⟩ := hrel
    have HSI := hid_l hsi
    have HQ := hid_l (And.intro hq0 hnf)
    have HOK := hid_l (And.intro hgood (And.intro hfits (And.intro hpot (And.intro hsum (And.intro hwo hlv)))))
    have HLV := hid_l (HMU.out hsi.run hfits)
    have hsix : (whomR rm.tab t).length ≤ 6 := whom_six (fun d x hx => (whom_deal hgood hx).2) t
    have htb := hgood.tabs hpot
    have HWF := hid_l (waitsFor_run hsi.run hfits hwf (by omega) (by omega))
    clear hsi hnf hgood hfits hpot hsum hwo hlv HS0 htb
    go_wp2_with fail
    refine HWF.out.mono ?_
    rintro e w1 ⟨v1, rfl, hi1, hb1⟩
    have HI1 := hid_l hi1
    have HB1 := hid_l hb1
    have hq1 : w1.cell? ⟨Q, 0, none⟩ = some (.int .i64 t) := (hb1.cell (p := ⟨Q, 0, none⟩) (World.block_lt_of_cell? wr _ hq0)).trans hq0
    obtain ⟨ad1, cp1, rfl, -⟩ := own_slice3 hi1
    have HYA := hid_l (younger_any (whomR rm.tab t) (.slice ad1 (whomR rm.tab t).length cp1) t Q w1 hi1.ints hsix hq1)
    clear hi1 hb1 HWF hq0
    go_wp2_with fail
    refine HYA.out.mono ?_
    rintro e w2 ⟨n2, rfl, hfi, hb2⟩
    have HB2 : Hid (Below wr.heap.size wr w2) := HB1.out.trans (hb2.mono HB1.out.size)
    have HI2 : Hid (OwnI w2 wr.heap.size (.slice ad1 (whomR rm.tab t).length cp1) (whomR rm.tab t)) := HI1.out.below hb2 (Nat.le_refl _)
    have hq2 : w2.cell? ⟨Q, 0, none⟩ = some (.int .i64 t) := (hb2.cell (p := ⟨Q, 0, none⟩) (World.block_lt_of_cell? w1 _ hq1)).trans hq1
    clear hb2 HYA HI1 hq1
    rcases hfi with ⟨rfl, hno⟩ | ⟨k, rfl, hk, hq, hno⟩
    · have HTE : Hid (rm = TG) := by show _ = _; rw [← HOK.out.2.2.2.2.1, wound_none (none_young hno)]
      clear hno
      go_wp2_with fail
      refine bodyPost_ret (results_none Tryz.results85 _ _ _) rfl ⟨rfl, ?_⟩
      rw [← HTE.out]
      exact (HSI.out.below HB2.out).done
    · have hy := first_young hk hq hno
      obtain ⟨x, hx⟩ : ∃ x, (whomR rm.tab t).getD k 0 = x := ⟨_, rfl⟩
      rw [hx] at hy
      obtain ⟨y1, y2, y3⟩ := whom_deal HOK.out.1 (young_mem hy).1
      obtain ⟨m', rfl⟩ : ∃ m', m = m' + 1 := ⟨m - 1, by have := HOK.out.2.2.2.2.2; omega⟩
      have HWN : Hid (woundN (doN way n) t m' (abortR (doN way n) rm x) = TG) := by show _ = _; rw [← wound_some hy]; exact HOK.out.2.2.2.2.1
      obtain ⟨s1, s2⟩ := abort_ok HDO.out HOK.out.1 y2 y3 y1
      have HAF := hid_l (abort_fits HDO.out HDF.out HOK.out.1 HOK.out.2.1 y2 y3 y1)
      have HLL := hid_l (live_less y2 y3 y1 s2 s1.outs)
      have HSS := hid_l s1
      have hk' : ¬ (k : Int) < 0 := by omega
      have hk0 : (0 : Int) ≤ (k : Int) := by omega
      have hkl : (k : Int) < ((whomR rm.tab t).length : Int) := by omega
      obtain ⟨gg, rfl, -, hgl, -⟩ := (own_slice3 HI2.out).elim fun _ h => h.elim fun _ h => by
        obtain ⟨e, h⟩ := h
        simp only [Value.slice.injEq, true_and] at e
        obtain ⟨rfl, rfl⟩ := e
        exact h (by omega)
      have e0 : w2.cell? ⟨gg, k, none⟩ = some (.int .i64 x) := by
        have h1 : w2.ownsRow wr.heap.size 3 1 (.slice (some ⟨gg, 0, none⟩) (whomR rm.tab t).length cp1) (whomR rm.tab t).length ((whomR rm.tab t).map (Value.int .i64)) := HI2.out
        have h2 := h1.cells (g := gg) rfl k (.int .i64 x) (by rw [List.getElem?_map, List.getElem?_eq_getElem hk, ← hx]; simp [List.getD, hk])
        rw [Addr.add_lit, Nat.zero_add] at h2
        exact h2
      have HS2 := hid_l (HSI.out.below HB2.out)
      have HAB := hid_l (HA.out R rm cm P x w2 HS2.out.run HOK.out.1 HOK.out.2.1 y2 y3 y1 HOK.out.2.2.1 HOK.out.2.2.2.1)
      clear hno hq hy hx y1 y2 y3 s1 s2
      go_wp2_with fail
      refine HAB.out.mono ?_
      rintro e w3 ⟨rfl, hst3⟩
      have htu : Turns (feet R cm) w2 w3 := by obtain ⟨_, _, h1, _⟩ := hst3; exact h1
      have hq3 : w3.cell? ⟨Q, 0, none⟩ = some (.int .i64 t) := (htu.cell (p := ⟨Q, 0, none⟩) (World.block_lt_of_cell? w2 _ hq2) HQ.out.2).trans hq2
      obtain ⟨c3, a1, a2, a3⟩ := hst3
      have hnf3 : ¬ feet R c3 Q := fun hk => by
        rcases a3 Q hk with h1 | h1
        · exact HQ.out.2 h1
        · have := World.block_lt_of_cell? w2 _ hq2; simp only at this; omega
      have HS3 := hid_l (HS2.out.to a1 a2 a3)
      have HL3 := hid_l (HMU.out a1 HAF.out)
      have HN3 := hid_l (And.intro hq3 hnf3)
      clear a1 a2 a3 htu hq3 hnf3 hq2 e0 hgl
      go_wp2_with fail
      go_roundw
      case rel => exact ⟨m', _, c3, HS3.out, HN3.out.1, HN3.out.2, HSS.out.good, HAF.out, by have := HSS.out.pots; have := HOK.out.2.2.1; omega, by have := sum_mono HSS.out.less; have := HOK.out.2.2.2.1; omega, HWN.out, by have := HLL.out; have := HOK.out.2.2.2.2.2; omega⟩
      case measure => rw [HL3.out, HLV.out]; have := HLL.out; omega
end Go.Proofs.YtmjjiehnjghndaaGreat
