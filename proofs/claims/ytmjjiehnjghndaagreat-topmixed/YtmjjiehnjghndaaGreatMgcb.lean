/-
  PROVED HERE: strict.lane's methods avoid and do, over a run in memory: what one op of a deal that does not wait comes to, by each way.
  Conditions: the lists are short; what is said of those that wait fits the table.
  PROVED HERE: strict.lane's method come, over a run in memory: what an op that is asked for comes to.
  Conditions: the lists are short; nobody's turn is still to come.
-/
import Derived.Test.YtmjjiehnjghndaaGreatMgby
import Derived.Test.YtmjjiehnjghndaaGreatMgca
namespace Go.Proofs.YtmjjiehnjghndaaGreat
open Go.RowKit

def AvoidL (way : Int) (n : Nat) : Prop := ∀ (R : Nat) (r : Runr) (c : Lay) (P : Int → Option Op3) (t : Nat) (w : World), LaneAt w R way r (wm r P) c → Good r → Fits r P → 1 ≤ t → t ≤ 6 → r.out (t : Int) = false → pot r ≤ 47 → sum6 r.behind ≤ n →
  Calls Tryz.prog 59 #[.pointer (some ⟨R, 0, none⟩), .int .i64 t] w fun e w' => e = .returned (.tuple #[]) ∧ LaneStep w w' R way c (wayR way (doN way n) r t) (wm (wayR way (doN way n) r t) P)
set_option maxHeartbeats 8000000 in
set_option maxRecDepth 100000 in
theorem avoid_lane {way : Int} (hway : way = 0 ∨ way = 1 ∨ way = 2) {n : Nat} (hA : AbortL way n) (hW : WoundL way n) : AvoidL way n := by
  intro R r c P t w h hg hf h1 h6 ho hp hs
  have hbW : Below w.heap.size w (w.alloc (.cells #[.int .i64 (t : Int)] 3)) := (Below.refl _ w).alloc (Nat.le_refl _) _
  have htb := hg.tabs hp
  have hwd : ∀ d x, x ∈ whomR r.tab d → 1 ≤ x ∧ x ≤ 6 := fun d x hx => (whom_deal hg hx).2
  have hsix := whom_six hwd (t : Int)
  have hwf : Wf (t : Int) := wf_deal (by omega) (by omega)
  have HA : Hid (∀ (W : World), LaneAt W R way r (wm r P) c → Calls Tryz.prog 81 #[.pointer (some ⟨R, 0, none⟩), .int .i64 t] W fun e w' => e = .returned (.tuple #[]) ∧ LaneStep W w' R way c (abortR (doN way n) r t) (wm (abortR (doN way n) r t) P)) := fun W hl => hA R r c P t W hl hg hf (by omega) (by omega) ho hp hs
  have HWD : Hid (∀ (W : World), LaneAt W R way r (wm r P) c → Calls Tryz.prog 85 #[.pointer (some ⟨R, 0, none⟩), .int .i64 t] W fun e w' => e = .returned (.tuple #[]) ∧ LaneStep W w' R way c (woundN (doN way n) t 7 r) (wm (woundN (doN way n) t 7 r) P)) := fun W hl => hW R r c P t W hl hg hf (by omega) (by omega) hp hs
  have HRI : Hid (∀ (W : World), LaneAt W R way r (wm r P) c → Calls Tryz.prog 80 #[.pointer (some ⟨R, 0, none⟩), .int .i64 t] W fun e w' => e = .returned (.bool (ringR r.tab t)) ∧ Below W.heap.size W w') := fun W hl => isInRing_run hl hf h1 h6 (by omega) (by omega) hwd
  have HWF : Hid (∀ (W : World), LaneAt W R way r (wm r P) c → Calls Tryz.prog 84 #[.pointer (some ⟨R, 0, none⟩), .int .i64 t] W fun e w' => ∃ v, e = .returned v ∧ OwnI w' W.heap.size v (whomR r.tab t) ∧ Below W.heap.size W w') := fun W hl => waitsFor_run hl hf hwf (by omega) (by omega)
  have HS := hid_l (Since.start h)
  have c0 := h.c0
  have hRl := h.lt
  have HBW := hid_l hbW
  clear hA hW h hg hf ho hp hs hbW htb hwd
  rcases hway with rfl | rfl | rfl
  · have HE : Hid (wayR 0 (doN 0 n) r t = if ringR r.tab t = true then abortR (doN 0 n) r t else r) := rfl
    go_enter Tryz.func59, Tryz.ntmps59
    go_wp2_with fail
    refine (HRI.out _ (HS.out.below HBW.out).run).mono ?_
    rintro e w1 ⟨rfl, hb1⟩
    have HB1 : Hid (Below w.heap.size w w1) := HBW.out.trans (hb1.mono HBW.out.size)
    have p0 : w1.cell? ⟨w.heap.size, 0, none⟩ = some (.int .i64 t) := (hb1.cell (p := ⟨w.heap.size, 0, none⟩) (by simp)).trans (by simp)
    clear hb1
    cases hr : ringR r.tab t with
    | true =>
      rw [hr] at HE
      have HE1 : Hid (wayR 0 (doN 0 n) r t = abortR (doN 0 n) r t) := HE.out
      clear hr HE
      go_wp2_with fail
      refine (HA.out _ (HS.out.below HB1.out).run).mono ?_
      rintro e w2 ⟨rfl, hst⟩
      have HST := hid_l hst
      clear hst p0
      go_wp2_with fail
      go_end0
      exact ⟨rfl, by rw [HE1.out]; exact LaneStep.later HB1.out HST.out⟩
    | false =>
      rw [hr] at HE
      have HE1 : Hid (wayR 0 (doN 0 n) r t = r) := HE.out
      clear hr HE
      go_wp2_with fail
      go_end0
      exact ⟨rfl, by rw [HE1.out]; exact (HS.out.below HB1.out).done⟩
  · have HE : Hid (wayR 1 (doN 1 n) r t = if ((whomR r.tab t).any fun x => decide (x < (t : Int))) = true then abortR (doN 1 n) r t else r) := by
      show wayR _ _ _ _ = _
      unfold wayR
      rw [if_neg (by decide), if_pos rfl]
      exact die_iff _ _ _ (whom_rise r.tab (t : Int))
    go_enter Tryz.func59, Tryz.ntmps59
    go_wp2_with fail
    refine (HWF.out _ (HS.out.below HBW.out).run).mono ?_
    rintro e w1 ⟨v1, rfl, hi1, hb1⟩
    have HB1 : Hid (Below w.heap.size w w1) := HBW.out.trans (hb1.mono HBW.out.size)
    have p0 : w1.cell? ⟨w.heap.size, 0, none⟩ = some (.int .i64 t) := (hb1.cell (p := ⟨w.heap.size, 0, none⟩) (by simp)).trans (by simp)
    obtain ⟨ad1, cp1, rfl, -⟩ := own_slice3 hi1
    have HOA := hid_l (older_any (whomR r.tab t) (.slice ad1 (whomR r.tab t).length cp1) t w.heap.size w1 hi1.ints hsix p0)
    clear hb1 hi1
    go_wp2_with fail
    refine HOA.out.mono ?_
    rintro e w2 ⟨rfl, hb2⟩
    have HB2 : Hid (Below w.heap.size w w2) := HB1.out.trans (hb2.mono HB1.out.size)
    have p1 : w2.cell? ⟨w.heap.size, 0, none⟩ = some (.int .i64 t) := (hb2.cell (p := ⟨w.heap.size, 0, none⟩) (World.block_lt_of_cell? w1 _ p0)).trans p0
    clear hb2 p0 HOA HB1
    cases hr : (whomR r.tab t).any fun x => decide (x < (t : Int)) with
    | true =>
      rw [hr] at HE
      have HE1 : Hid (wayR 1 (doN 1 n) r t = abortR (doN 1 n) r t) := HE.out
      clear hr HE
      go_wp2_with fail
      refine (HA.out _ (HS.out.below HB2.out).run).mono ?_
      rintro e w3 ⟨rfl, hst⟩
      have HST := hid_l hst
      clear hst p1
      go_wp2_with fail
      go_end0
      exact ⟨rfl, by rw [HE1.out]; exact LaneStep.later HB2.out HST.out⟩
    | false =>
      rw [hr] at HE
      have HE1 : Hid (wayR 1 (doN 1 n) r t = r) := HE.out
      clear hr HE
      go_wp2_with fail
      go_end0
      exact ⟨rfl, by rw [HE1.out]; exact (HS.out.below HB2.out).done⟩
  · have HE : Hid (wayR 2 (doN 2 n) r t = woundN (doN 2 n) t 7 r) := rfl
    go_enter Tryz.func59, Tryz.ntmps59
    go_wp2_with fail
    refine (HWD.out _ (HS.out.below HBW.out).run).mono ?_
    rintro e w1 ⟨rfl, hst⟩
    have HST := hid_l hst
    clear hst
    go_wp2_with fail
    go_end0
    exact ⟨rfl, by rw [HE.out]; exact LaneStep.later HBW.out HST.out⟩
theorem wm_wait {r : Runr} {P : Int → Option Op3} {o : Op3} (hp : P o.1 = none) (d : Int) : wm (wait0 r o) P d = setF (wm r P) o.1 (some (lockV (lkOf o))) d := by
  unfold wm wait0
  by_cases e : d = o.1
  · subst e
    simp only [setF_same]
    rw [if_pos ⟨trivial, hp⟩]
  · simp only [setF_other _ _ e]
set_option maxHeartbeats 16000000 in
set_option maxRecDepth 100000 in
theorem do_lane {way : Int} (hway : way = 0 ∨ way = 1 ∨ way = 2) {n : Nat} (hD : DoL way n) : DoL way (n + 1) := by
  intro R r c P o w h hg hf hp hs ho hnw hop
  have HF := hid_l (free_lane hD)
  have HAV := hid_l (avoid_lane hway (abort_lane (free_lane hD)) (wound_lane (abort_lane (free_lane hD))))
  obtain ⟨h1, h6⟩ := isOp_range hop
  have hwhat : o.2.1 = 1 ∨ o.2.1 = 2 ∨ o.2.1 = 3 ∨ o.2.1 = 4 := by simp [isOpB] at hop; omega
  have hP := hf.idle ho hnw
  have hol : ¬ 3 ≤ o.2.1 → isLock (lkOf o) = true := fun ha => op_lock hop ha
  have hcalm := hf.calm hnw
  obtain ⟨t, a, i⟩ := o
  simp only at h1 h6 ho hnw hwhat hP hcalm
  obtain ⟨dt, rfl⟩ : ∃ d : Nat, t = d := ⟨t.toNat, by omega⟩
  have HG : Hid (Good r ∧ Fits r P ∧ pot r ≤ 46 ∧ sum6 r.behind ≤ n ∧ r.out (dt : Int) = false ∧ r.waits (dt : Int) = false) := ⟨hg, hf, hp, by omega, ho, hnw⟩
  have HTB := hid_l (hg.tabs (by omega))
  have HDW : Hid (doN way (n + 1) r ((dt : Int), a, i) = doW way (doN way n) r ((dt : Int), a, i)) := rfl
  have HPN := hid_l hP
  have hRl := h.lt
  have hd1 : 1 ≤ dt := by omega
  have hd6 : dt ≤ 6 := by omega
  have HL := hid_l h
  clear hD hg hf hp hs ho hnw hop h h1 h6 hP
  go_enter Tryz.func38, Tryz.ntmps38
  go_upto_region 1 with (fail)
  obtain ⟨W, hW⟩ : ∃ W, W = w.alloc (.cells #[.int .i64 (dt : Int), .int .i64 a, .int .i64 i] 38) := ⟨_, rfl⟩
  rw [← hW]
  have hbx : LkBox W w.heap.size ((dt : Int), a, i) := by rw [hW]; exact lkBox_new _ _ _ _ _
  have hbW : Below w.heap.size w W := by rw [hW]; exact (Below.refl _ w).alloc (Nat.le_refl _) _
  obtain ⟨Q, hQ⟩ : ∃ Q, Q = w.heap.size := ⟨_, rfl⟩
  have HQF : Hid (¬ feet R c Q) := fun hk => by have := HL.out.feet_lt hk; omega
  have HSW := hid_l ((Since.start HL.out).below hbW)
  rw [← hQ] at hbx ⊢
  have HBX := hid_l hbx
  obtain ⟨p0, p1, p2⟩ := hbx
  simp only at p0 p1 p2
  have hPW : Q < W.heap.size := World.block_lt_of_cell? W _ p0
  clear hW hbW hQ hRl
  by_cases ha : 3 ≤ a
  · have HE : Hid (doW way (doN way n) r ((dt : Int), a, i) = freeR (doN way n) { r with told := r.told ++ [((dt : Int), a, i)] } (dt : Int)) := by show doW _ _ _ _ = _; unfold doW; rw [if_pos ha]
    have ha34 : a = 3 ∨ a = 4 := by omega
    clear hol hcalm hwhat ha
    rcases ha34 with rfl | rfl
    · skip
      go_wp2_with fail
      refine (tell_run ((dt : Int), 3, i) HSW.out.run HTB.out.2.2.1).mono ?_
      rintro e w1 ⟨rfl, hst1⟩
      have htu1 : Turns (feet R c) W w1 := by obtain ⟨_, _, h1, _⟩ := hst1; exact h1
      obtain ⟨p0, p1, p2⟩ := HBX.out.turn htu1 HQF.out
      simp only at p0 p1 p2
      obtain ⟨c1, hs1⟩ := HSW.out.step hst1
      have HS1 := hid_l hs1
      have HFB := hid_l ((HG.out.2.1.told (r.told ++ [((dt : Int), 3, i)])).but HG.out.2.2.2.2.2)
      have HFR := hid_l (HF.out R { r with told := r.told ++ [((dt : Int), 3, i)] } (wm r P) c1 P (dt : Int) w1 HS1.out.run (fun _ _ => rfl) HFB.out (free_good (tell_ok HG.out.1 _).1 _) HTB.out.1 HTB.out.2.1 (by omega) (by omega) (by rw [(tell_ok HG.out.1 _).2]; have := HG.out.2.2.1; omega) HG.out.2.2.2.1)
      clear htu1 hst1 hs1
      go_wp2_with fail
      refine HFR.out.mono ?_
      rintro e w2 ⟨rfl, hst2⟩
      obtain ⟨c2, hs2⟩ := HS1.out.step hst2
      have HS2 := hid_l hs2
      clear hst2 hs2 p0 p1 p2
      go_wp2_with fail
      refine bodyPost_ret (results_none Tryz.results38 _ _ _) rfl ⟨rfl, ?_⟩
      rw [HDW.out, HE.out]
      exact HS2.out.done
    · skip
      go_wp2_with fail
      refine (tell_run ((dt : Int), 4, i) HSW.out.run HTB.out.2.2.1).mono ?_
      rintro e w1 ⟨rfl, hst1⟩
      have htu1 : Turns (feet R c) W w1 := by obtain ⟨_, _, h1, _⟩ := hst1; exact h1
      obtain ⟨p0, p1, p2⟩ := HBX.out.turn htu1 HQF.out
      simp only at p0 p1 p2
      obtain ⟨c1, hs1⟩ := HSW.out.step hst1
      have HS1 := hid_l hs1
      have HFB := hid_l ((HG.out.2.1.told (r.told ++ [((dt : Int), 4, i)])).but HG.out.2.2.2.2.2)
      have HFR := hid_l (HF.out R { r with told := r.told ++ [((dt : Int), 4, i)] } (wm r P) c1 P (dt : Int) w1 HS1.out.run (fun _ _ => rfl) HFB.out (free_good (tell_ok HG.out.1 _).1 _) HTB.out.1 HTB.out.2.1 (by omega) (by omega) (by rw [(tell_ok HG.out.1 _).2]; have := HG.out.2.2.1; omega) HG.out.2.2.2.1)
      clear htu1 hst1 hs1
      go_wp2_with fail
      refine HFR.out.mono ?_
      rintro e w2 ⟨rfl, hst2⟩
      obtain ⟨c2, hs2⟩ := HS1.out.step hst2
      have HS2 := hid_l hs2
      clear hst2 hs2 p0 p1 p2
      go_wp2_with fail
      refine bodyPost_ret (results_none Tryz.results38 _ _ _) rfl ⟨rfl, ?_⟩
      rw [HDW.out, HE.out]
      exact HS2.out.done
  · have ha12 : ((dt : Int), a, i).2.1 = 1 ∨ ((dt : Int), a, i).2.1 = 2 := by show a = 1 ∨ a = 2; omega
    have hlk := hol ha
    have hna3 : (a == 3) = false := by simp; omega
    have hna4 : (a == 4) = false := by simp; omega
    have HLO : Hid (Calls Tryz.prog 57 #[.agg #[.int .i64 (dt : Int), .int .i64 a, .int .i64 i]] W fun e w' => e = .returned (.agg #[.int .i64 (dt : Int), .int .i64 i, .int .i64 a]) ∧ Below W.heap.size W w') := lockOf_run ((dt : Int), a, i) ha12 W
    have HLK := hid_l hlk
    have HCM := hid_l hcalm
    have HNA := hid_l ha
    clear hol hcalm hwhat ha12 hlk
    go_wp2_with fail
    refine HLO.out.mono ?_
    rintro e w1 ⟨rfl, hb1⟩
    have HS1 := hid_l (HSW.out.below hb1)
    have HB1 := hid_l (HBX.out.below hb1)
    clear hb1 p0 p1 p2 hPW HSW HBX HLO ha
    go_upto_region 5 with (fail)
    obtain ⟨V, hV⟩ : ∃ V, V = w1.alloc (.cells #[.int .i64 (dt : Int), .int .i64 i, .int .i64 a] 99) := ⟨_, rfl⟩
    rw [← hV]
    have hbV : Below w1.heap.size w1 V := by rw [hV]; exact (Below.refl _ w1).alloc (Nat.le_refl _) _
    have hbx2 : LkBox V w1.heap.size ((dt : Int), i, a) := by rw [hV]; exact lkBox_new _ _ _ _ _
    obtain ⟨Q2, hQ2⟩ : ∃ Q, Q = w1.heap.size := ⟨_, rfl⟩
    have HQ2 : Hid (¬ feet R c Q2) := fun hk => by have := HS1.out.run.feet_lt hk; omega
    have HSV := hid_l (HS1.out.below hbV)
    have HBV := hid_l (HB1.out.below hbV)
    rw [← hQ2] at hbx2 ⊢
    have HBY := hid_l hbx2
    obtain ⟨q0, q1, q2⟩ := hbx2
    simp only at q0 q1 q2
    obtain ⟨p0, p1, p2⟩ := HBV.out
    simp only at p0 p1 p2
    have hQV : Q2 < V.heap.size := World.block_lt_of_cell? V _ q0
    have hPV : Q < V.heap.size := World.block_lt_of_cell? V _ p0
    have k1 := HSV.out.run.c1
    clear hV hbV hQ2
    obtain ⟨F1, hask⟩ : ∃ F1 : Unit, True := ⟨(), trivial⟩
    have HASK : Hid (Calls Tryz.prog 58 #[.pointer (some ⟨c.T, 0, none⟩), .agg #[.int .i64 (dt : Int), .int .i64 i, .int .i64 a]] V.drew fun e w' => e = .returned (.tuple #[.bool (askT r.tab ((dt : Int), i, a)).1.1, .nilIface]) ∧ Turns (feet R c) V w' ∧ ∃ c2, (∀ k, feet R c2 k → feet R c k ∨ V.heap.size ≤ k) ∧ LaneAt w' R way { r with tab := (askT r.tab ((dt : Int), i, a)).2 } (wm r P) c2) := by
      have hl0 := HSV.out.run.below (Below.refl _ V).drew
      refine (locksQ.ask V.drew c.T c.F r.tab ((dt : Int), i, a) hl0.tab (by have := HTB.out.1; omega) (by have := HTB.out.2.1; omega)).mono ?_
      rintro e w' ⟨rfl, F', h1, h2, h3⟩
      obtain ⟨c2, a1, a2, a3⟩ := hl0.setTab h1 h2 h3
      have he : (askT r.tab ((dt : Int), i, a)).1.2 = 0 := by
        rcases ask_new (s := r.tab) (x := ((dt : Int), i, a)) HLK.out HCM.out with ⟨_, _, h4⟩ | h4
        · exact h4
        · rw [h4]
      refine ⟨by rw [he]; rfl, ⟨a2.os, a2.tape, a2.output, a2.size, a2.block⟩, c2, a3, a1⟩
    clear hask F1
    go_region_with (first | (go_at_call 58; refine HASK.out.mono ?_; rintro e w2 ⟨rfl, ht2, c2, hf2, hl2⟩))
    all_goals
      have HP2 := hid_l (HBV.out.turn ht2 HQF.out)
      have HY2 := hid_l (HBY.out.turn ht2 HQ2.out)
      have HS2 := hid_l (HSV.out.to hl2 ht2 hf2)
      have HNQ : Hid (¬ feet R c2 Q ∧ ¬ feet R c2 Q2) := ⟨fun hk => (hf2 Q hk).elim HQF.out fun h => by omega, fun hk => (hf2 Q2 hk).elim HQ2.out fun h => by omega⟩
      clear ht2 hf2 hl2 q0 q1 q2 p0 p1 p2 k1 hQV hPV HASK HSV HBV HBY HS1 HB1
      obtain ⟨p0, p1, p2⟩ := HP2.out
      obtain ⟨q0, q1, q2⟩ := HY2.out
      simp only at p0 p1 p2 q0 q1 q2
      rcases ask_new (s := r.tab) (x := ((dt : Int), i, a)) HLK.out HCM.out with ⟨h4, h5, _⟩ | h4
      · have HE : Hid (doW way (doN way n) r ((dt : Int), a, i) = { r with tab := (askT r.tab ((dt : Int), i, a)).2, told := r.told ++ [((dt : Int), a, i)] }) := by
          show doW _ _ _ _ = _
          unfold doW
          rw [if_neg (show ¬ (3 : Int) ≤ a by have := HNA.out; omega), if_pos (show (askT r.tab ((dt : Int), i, a)).1.1 = true from h4)]
        rw [h4]
        clear h4 h5
        go_wp2_with fail
        refine (tell_run ((dt : Int), a, i) HS2.out.run HTB.out.2.2.1).mono ?_
        rintro e w3 ⟨rfl, hst3⟩
        obtain ⟨c3, hs3⟩ := HS2.out.step hst3
        have HS3 := hid_l hs3
        clear hst3 hs3 p0 p1 p2 q0 q1 q2
        go_wp2_with fail
        refine bodyPost_ret (results_none Tryz.results38 _ _ _) rfl ⟨rfl, ?_⟩
        rw [HDW.out, HE.out]
        exact HS3.out.done
      · have HE : Hid (doW way (doN way n) r ((dt : Int), a, i) = wayR way (doN way n) (wait0 r ((dt : Int), a, i)) (dt : Int)) := by
          show doW _ _ _ _ = _
          unfold doW
          rw [if_neg (show ¬ (3 : Int) ≤ a by have := HNA.out; omega), if_neg (show ¬ (askT r.tab ((dt : Int), i, a)).1.1 = true by rw [h4]; simp)]
        have HFW := hid_l (HG.out.2.1.wait (o := ((dt : Int), a, i)) HG.out.2.2.2.2.1 HG.out.2.2.2.2.2 HLK.out h4)
        obtain ⟨hgw, hpw⟩ := wait_ok (o := ((dt : Int), a, i)) HG.out.1 HG.out.2.2.2.2.1 HG.out.2.2.2.2.2 (show (1 : Int) ≤ (dt : Int) by omega) (show (dt : Int) ≤ 6 by omega)
        have HGW : Hid (Good (wait0 r ((dt : Int), a, i)) ∧ pot (wait0 r ((dt : Int), a, i)) ≤ 47) := ⟨hgw, by have := HG.out.2.2.1; omega⟩
        rw [show (askT r.tab ((dt : Int), i, a)).1.1 = false by rw [h4]]
        have k4 := HS2.out.run.c4
        obtain ⟨m4, hm4⟩ := HS2.out.run.wts
        have hm4' : MapIs w2.drew c2.W (wm r P) m4 := hm4
        obtain ⟨X, hup, hmX, htX⟩ := hm4'.store (v := .agg #[.int .i64 (dt : Int), .int .i64 i, .int .i64 a]) Tryz.underlying51 (show (1 : Int) ≤ (dt : Int) by omega) (show (dt : Int) ≤ 6 by omega)
        have htX2 : Turns (fun k => k = c2.W) w2 X := ⟨htX.os, htX.tape, htX.output, htX.size, htX.block⟩
        have hWQ : c2.W ≠ Q := fun e => HNQ.out.1 ⟨4, by omega, e.symm⟩
        have d0 : X.cell? ⟨Q, 0, none⟩ = some (.int .i64 (dt : Int)) := (htX2.cell (p := ⟨Q, 0, none⟩) (World.block_lt_of_cell? w2 _ p0) (Ne.symm hWQ)).trans p0
        obtain ⟨c3, hs3⟩ := HS2.out.step (HS2.out.run.setWts hmX htX2)
        have hwm : ∀ d, wm (wait0 r ((dt : Int), a, i)) P d = setF (wm r P) (dt : Int) (some (.agg #[.int .i64 (dt : Int), .int .i64 i, .int .i64 a])) d := fun d => wm_wait (o := ((dt : Int), a, i)) HPN.out d
        have HS3 : Hid (Since w X R way c (wait0 r ((dt : Int), a, i)) (wm (wait0 r ((dt : Int), a, i)) P) c3) := ⟨(hs3.run.as (r1 := wait0 r ((dt : Int), a, i)) rfl rfl rfl rfl).congr hwm, hs3.turn, hs3.feet⟩
        have HAW := hid_l (HAV.out R (wait0 r ((dt : Int), a, i)) c3 P dt X HS3.out.run HGW.out.1 HFW.out hd1 hd6 HG.out.2.2.2.2.1 HGW.out.2 HG.out.2.2.2.1)
        have hRw := HS2.out.run.lt
        clear h4 hgw hpw hm4 hm4' hmX htX htX2 hWQ hs3 hwm HS2
        go_wp2_with fail
        go_region
        all_goals
          go_wp2_with fail
          refine HAW.out.mono ?_
          rintro e w4 ⟨rfl, hst4⟩
          obtain ⟨c4, hs4⟩ := HS3.out.step hst4
          have HS4 := hid_l hs4
          clear hst4 hs4 d0 p0 p1 p2 q0 q1 q2
          go_wp2_with fail
          go_end0
          exact ⟨rfl, by rw [HDW.out, HE.out]; exact HS4.out.done⟩
theorem do_lanes {way : Int} (hway : way = 0 ∨ way = 1 ∨ way = 2) : ∀ n, DoL way n := by
  intro n
  induction n with
  | zero => intro R r c P o w _ _ _ _ hs; omega
  | succ n ih => exact do_lane hway ih
end Go.Proofs.YtmjjiehnjghndaaGreat

namespace Go.Proofs.YtmjjiehnjghndaaGreat
open Go.RowKit

theorem tail_slice2 {w : World} {base e size n : Nat} {v : Value} {xs : List Value} (h : Tail w base e size v n xs) : ∃ ad c, v = .slice ad n c := by
  obtain ⟨_, ⟨hv, hd⟩ | ⟨g, off, cap, cur, hv, _⟩⟩ := h
  · exact ⟨none, 0, by rw [hv, hd]⟩
  · exact ⟨_, cap, hv⟩
theorem heap_alloc_lt2 (w : World) (ob : Obj) {g : Nat} (h : g < w.heap.size) : (w.alloc ob).heap[g]? = w.heap[g]? := ((Below.refl w.heap.size w).alloc (Nat.le_refl _) ob).block g h
abbrev noP : Int → Option Op3 := fun _ => none
set_option maxHeartbeats 16000000 in
set_option maxRecDepth 100000 in
theorem come_lane {way : Int} (hway : way = 0 ∨ way = 1 ∨ way = 2) {R : Nat} {r : Runr} {c : Lay} {o : Op3} {w : World} (h : LaneAt w R way r (wm r noP) c) (hg : Good r) (hf : Fits r noP) (hp : pot r ≤ 46) (hs : sum6 r.behind < 41) (hop : isOpB o = true) :
    Calls Tryz.prog 18 #[.pointer (some ⟨R, 0, none⟩), lockV o] w fun e w' => e = .returned (.tuple #[]) ∧ LaneStep w w' R way c (comeR way r o) (wm (comeR way r o) noP) := by
  have HD := hid_l (do_lanes hway 41)
  obtain ⟨h1, h6⟩ := isOp_range hop
  obtain ⟨t, a, i⟩ := o
  simp only at h1 h6
  obtain ⟨dt, rfl⟩ : ∃ d : Nat, t = d := ⟨t.toNat, by omega⟩
  have HG : Hid (Good r ∧ Fits r noP ∧ pot r ≤ 46 ∧ sum6 r.behind < 41 ∧ isOpB ((dt : Int), a, i) = true) := ⟨hg, hf, hp, hs, hop⟩
  obtain ⟨i0, hi, hz0, hs0, hy0⟩ := info_parts infoOpL
  have HI : Hid (Tryz.prog.info? 38 = some i0 ∧ i0.zero = some (.agg #[.int .i64 0, .int .i64 0, .int .i64 0]) ∧ i0.size = 3 ∧ i0.bytes = 24) := ⟨hi, hz0, hs0, hy0⟩
  have hwf : Wf (dt : Int) := wf_deal h1 h6
  have hd1 : 1 ≤ dt := by omega
  have hd6 : dt ≤ 6 := by omega
  have HL := hid_l h
  clear hg hf hp hs hop hi hz0 hs0 hy0 h h1 h6
  go_enter Tryz.func18, Tryz.ntmps18
  go_upto_region 2 with (fail)
  obtain ⟨W, hW⟩ : ∃ W, W = w.alloc (.cells #[.int .i64 (dt : Int), .int .i64 a, .int .i64 i] 38) := ⟨_, rfl⟩
  rw [← hW]
  have hbx : LkBox W w.heap.size ((dt : Int), a, i) := by rw [hW]; exact lkBox_new _ _ _ _ _
  have hbW : Below w.heap.size w W := by rw [hW]; exact (Below.refl _ w).alloc (Nat.le_refl _) _
  obtain ⟨Q, hQ⟩ : ∃ Q, Q = w.heap.size := ⟨_, rfl⟩
  have HQF : Hid (¬ feet R c Q) := fun hk => by have := HL.out.feet_lt hk; omega
  have HSW := hid_l ((Since.start HL.out).below hbW)
  rw [← hQ] at hbx ⊢
  have HBX := hid_l hbx
  obtain ⟨p0, p1, p2⟩ := hbx
  simp only at p0 p1 p2
  have hab := isAborted_run HSW.out.run hwf
  have hPW : Q < W.heap.size := World.block_lt_of_cell? W _ p0
  clear hW hbW hQ
  cases ho : r.out (dt : Int) with
  | true =>
    have hmem : (dt : Int) ∈ r.vict := (HG.out.2.1.vict _).1 ho
    rw [decide_eq_true hmem] at hab
    have HAB := hid_l hab
    have HC : Hid (comeR way r ((dt : Int), a, i) = r) := by show _ = _; unfold comeR; rw [if_pos ho]
    clear hab hmem ho
    go_wp2_with fail
    refine HAB.out.mono ?_
    rintro e w3 ⟨rfl, hw3⟩
    rw [hw3]
    clear hw3
    go_wp2_with fail
    go_end0
    exact ⟨rfl, by rw [HC.out]; exact HSW.out.done⟩
  | false =>
    have hmem : ¬ (dt : Int) ∈ r.vict := fun hm => by rw [(HG.out.2.1.vict _).2 hm] at ho; cases ho
    rw [decide_eq_false hmem] at hab
    have HAB := hid_l hab
    have hiw := isWaiting_run HSW.out.run (wm_lock r noP) hwf
    rw [wm_some r rfl] at hiw
    cases hw : r.waits (dt : Int) with
    | false =>
      have HC : Hid (comeR way r ((dt : Int), a, i) = doN way 41 r ((dt : Int), a, i)) := by show _ = _; unfold comeR; rw [if_neg (by rw [ho]; decide), if_neg (by rw [hw]; decide)]
      rw [hw] at hiw
      have HIW := hid_l hiw
      have HOW := hid_l (And.intro ho hw)
      clear hab hmem ho hw hiw
      go_wp2_with fail
      refine HAB.out.mono ?_
      rintro e w3 ⟨rfl, hw3⟩
      rw [hw3]
      clear hw3
      go_wp2_with fail
      refine HIW.out.mono ?_
      rintro e w4 ⟨rfl, hb4⟩
      have HS4 := hid_l (HSW.out.below hb4)
      obtain ⟨q0, q1, q2⟩ := HBX.out.below hb4
      simp only at q0 q1 q2
      have HDO := hid_l (HD.out R r c noP ((dt : Int), a, i) w4 HS4.out.run HG.out.1 HG.out.2.1 HG.out.2.2.1 HG.out.2.2.2.1 HOW.out.1 HOW.out.2 HG.out.2.2.2.2)
      clear hb4 p0 p1 p2 HBX HSW HIW HAB hPW
      go_wp2_with fail
      refine HDO.out.mono ?_
      rintro e w5 ⟨rfl, hst5⟩
      obtain ⟨c5, hs5⟩ := HS4.out.step hst5
      have HS5 := hid_l hs5
      clear hst5 hs5 q0 q1 q2
      go_wp2_with fail
      go_end0
      exact ⟨rfl, by rw [HC.out]; exact HS5.out.done⟩
    | true =>
      have HC : Hid (comeR way r ((dt : Int), a, i) = { r with behind := setF r.behind (dt : Int) (r.behind (dt : Int) ++ [((dt : Int), a, i)]) }) := by show _ = _; unfold comeR; rw [if_neg (by rw [ho]; decide), if_pos hw]
      rw [hw] at hiw
      have HIW := hid_l hiw
      clear hab hmem ho hw hiw
      go_wp2_with fail
      refine HAB.out.mono ?_
      rintro e w3 ⟨rfl, hw3⟩
      rw [hw3]
      clear hw3
      go_wp2_with fail
      refine HIW.out.mono ?_
      rintro e w4 ⟨rfl, hb4⟩
      have HS4 := hid_l (HSW.out.below hb4)
      have HB4 := hid_l (HBX.out.below hb4)
      obtain ⟨q0, q1, q2⟩ := HBX.out.below hb4
      simp only at q0 q1 q2
      have hQ4 : Q < w4.heap.size := World.block_lt_of_cell? w4 _ q0
      have hR4 := HS4.out.run.lt
      have k5 := HS4.out.run.c5
      obtain ⟨m5, hm5⟩ := HS4.out.run.beh
      have HM5 := hid_l hm5
      obtain ⟨ad5, c5, e5⟩ := tail_slice2 (HS4.out.run.rows dt (by omega))
      obtain ⟨n5, hn5⟩ : ∃ n, (r.behind (dt : Int)).length = n := ⟨_, rfl⟩
      rw [hn5] at e5
      have hn40 : n5 ≤ 40 := by
        have h2 := sum_le (f := r.behind) (show (1 : Int) ≤ (dt : Int) by omega) (show (dt : Int) ≤ 6 by omega)
        have h3 := HG.out.2.2.2.1
        omega
      have HV : Hid (Tail w4 0 38 3 (.slice ad5 n5 c5) n5 (flat (r.behind (dt : Int)))) := by show Tail _ _ _ _ _ _ _; have := HS4.out.run.rows dt (by omega); rw [e5, hn5] at this; exact this
      have hbv : (c.h (dt : Int)).getD (.slice none 0 0) = .slice ad5 n5 c5 := e5
      have hlk0 : (Instr.lookup 52 (.map (some c.B)) (.int .i64 (dt : Int)) false).run Tryz.prog w4.drew = .ok (.slice ad5 n5 c5) w4.drew := by have := (MapIs.drew hm5).look false Tryz.underlying52 (zero_ops _) hwf; rw [hbv] at this; exact this
      have hlk1 : ∀ ob : Obj, (Instr.lookup 52 (.map (some c.B)) (.int .i64 (dt : Int)) false).run Tryz.prog (w4.drew.alloc ob) = .ok (.slice ad5 n5 c5) (w4.drew.alloc ob) := fun ob => by
        have h2 : MapIs (w4.drew.alloc ob) c.B c.h m5 := hm5.turn (Turns.alloc (Turns.drew (Turns.refl (fun _ => False) w4)) ob) fun hf => hf
        have := h2.look false Tryz.underlying52 (zero_ops _) hwf
        rw [hbv] at this
        exact this
      have hlk2 : ∀ ob : Obj, (Instr.lookup 52 (.map (some c.B)) (.int .i64 (dt : Int)) false).run Tryz.prog (w4.alloc ob).drew = .ok (.slice ad5 n5 c5) (w4.alloc ob).drew := fun ob => by
        have h2 : MapIs (w4.alloc ob).drew c.B c.h m5 := hm5.turn (Turns.drew (Turns.alloc (Turns.refl (fun _ => False) w4) ob)) fun hf => hf
        have := h2.look false Tryz.underlying52 (zero_ops _) hwf
        rw [hbv] at this
        exact this
      have HPT : Hid (∀ v2 w2 (ob : Obj), Tail w2 0 38 3 v2 (n5 + 1) (flat (r.behind (dt : Int)) ++ flat [((dt : Int), a, i)]) → (w4.drew.alloc ob).grownBy w2 (Value.slice ad5 n5 c5).ownBlock → (∀ k, v2.ownBlock = some k → (Value.slice ad5 n5 c5).ownBlock = some k ∨ (w4.drew.alloc ob).heap.size ≤ k) → (w2.cell? ⟨R, 5, none⟩ = some (.map (some c.B)) ∧ w2.cell? ⟨Q, 0, none⟩ = some (.int .i64 (dt : Int)) ∧ w2.cell? ⟨Q, 1, none⟩ = some (.int .i64 a) ∧ w2.cell? ⟨Q, 2, none⟩ = some (.int .i64 i)) ∧ ∃ X, (X.cell? ⟨R, 5, none⟩ = some (.map (some c.B)) ∧ X.cell? ⟨Q, 0, none⟩ = some (.int .i64 (dt : Int)) ∧ X.cell? ⟨Q, 1, none⟩ = some (.int .i64 a) ∧ X.cell? ⟨Q, 2, none⟩ = some (.int .i64 i)) ∧ (Instr.mapUpdate 52 (.map (some c.B)) (.int .i64 (dt : Int)) v2).run Tryz.prog w2 = .ok () X ∧ LaneStep w4 X R way c { r with behind := setF r.behind (dt : Int) (r.behind (dt : Int) ++ [((dt : Int), a, i)]) } (wm r noP)) := fun v2 w2 ob h1 h2 h3 => by
        have htu : Turns (fun k => (c.bv (dt : Int)).ownBlock = some k) w4 w2 := by rw [e5]; exact turn_grown h2
        have hnR : ¬ (c.bv (dt : Int)).ownBlock = some R := fun e => HS4.out.run.apart 0 (dt + 6) R (by omega) (by omega) (by omega) rfl e
        have hnQ : ¬ (c.bv (dt : Int)).ownBlock = some Q := fun e => HQF.out ⟨dt + 6, by omega, e⟩
        have hnB : ¬ (c.bv (dt : Int)).ownBlock = some c.B := fun e => HS4.out.run.apart 5 (dt + 6) c.B (by omega) (by omega) (by omega) rfl e
        obtain ⟨X, hup, hmX, htX⟩ := (HM5.out.turn htu hnB).store (v := v2) Tryz.underlying52 (show (1 : Int) ≤ (dt : Int) by omega) (show (dt : Int) ≤ 6 by omega)
        have f0 := (htu.cell (p := ⟨R, 5, none⟩) HS4.out.run.lt hnR).trans HS4.out.run.c5
        have f1 := HB4.out.turn htu hnQ
        have hBR : ¬ R = c.B := fun e => HS4.out.run.apart 0 5 R (by omega) (by omega) (by omega) rfl e
        have hBQ : ¬ Q = c.B := fun e => HQF.out ⟨5, by omega, e⟩
        have f2 := f1.turn htX hBQ
        refine ⟨⟨f0, f1.1, f1.2.1, f1.2.2⟩, X, ⟨(htX.cell (p := ⟨R, 5, none⟩) (World.block_lt_of_cell? w2 _ f0) hBR).trans f0, f2.1, f2.2.1, f2.2.2⟩, hup, ?_⟩
        refine HS4.out.run.setBeh (w0 := w2) (x := some v2) (q := r.behind (dt : Int) ++ [((dt : Int), a, i)]) (d := dt) (by omega) htu hmX htX ?_ fun k hk => ?_
        · show Tail w2 0 _ 3 v2 _ _
          rw [List.length_append, hn5, flat_append]; exact h1
        · rcases apart_later h3 k hk with h4 | h4
          · exact .inl (by rw [e5]; exact h4)
          · exact .inr h4
      have HK5 : Hid (w4.drew.cell? ⟨R, 5, none⟩ = some (.map (some c.B)) ∧ w4.drew.cell? ⟨Q, 0, none⟩ = some (.int .i64 (dt : Int)) ∧ w4.drew.cell? ⟨Q, 1, none⟩ = some (.int .i64 a) ∧ w4.drew.cell? ⟨Q, 2, none⟩ = some (.int .i64 i)) := ⟨k5, q0, q1, q2⟩
      have HK6 : Hid (∀ ob : Obj, (w4.drew.alloc ob).cell? ⟨R, 5, none⟩ = some (.map (some c.B)) ∧ (w4.drew.alloc ob).cell? ⟨Q, 0, none⟩ = some (.int .i64 (dt : Int)) ∧ (w4.drew.alloc ob).cell? ⟨Q, 1, none⟩ = some (.int .i64 a) ∧ (w4.drew.alloc ob).cell? ⟨Q, 2, none⟩ = some (.int .i64 i)) := fun ob => by
        refine ⟨?_, ?_, ?_, ?_⟩
        · exact (World.cell?_alloc_lt w4.drew ob ⟨R, 5, none⟩ hR4).trans k5
        · exact (World.cell?_alloc_lt w4.drew ob ⟨Q, 0, none⟩ hQ4).trans q0
        · exact (World.cell?_alloc_lt w4.drew ob ⟨Q, 1, none⟩ hQ4).trans q1
        · exact (World.cell?_alloc_lt w4.drew ob ⟨Q, 2, none⟩ hQ4).trans q2
      clear hb4 p0 p1 p2 HBX HSW HIW HAB hPW hm5 e5 hn5 hbv
      go_wp2_with fail
      go_region_held3 (fun w' => w'.cell? ⟨R, 5, none⟩ = some (.map (some c.B)) ∧ w'.cell? ⟨Q, 0, none⟩ = some (.int .i64 (dt : Int)) ∧ w'.cell? ⟨Q, 1, none⟩ = some (.int .i64 a) ∧ w'.cell? ⟨Q, 2, none⟩ = some (.int .i64 i)) (first | exact gX | exact g0 | exact HK5.out | exact HK6.out _) (first | (refine step_append_tail rfl (.tmp 29) (.tmp 31) 22 rfl 0 38 i0 (.agg #[.int .i64 0, .int .i64 0, .int .i64 0]) 3 24 Tryz.underlying22 HI.out.1 HI.out.2.1 HI.out.2.2.1 HI.out.2.2.2 rfl (by decide) (.slice ad5 n5 c5) n5 (flat (r.behind (dt : Int))) (by simp [Act.eval]) (HV.out.same fun k hk => heap_alloc_lt2 w4.drew _ (HV.out.lt k hk).2) ⟨w4.heap.size, 0, none⟩ 1 1 (flat [((dt : Int), a, i)]) (by simp [Act.eval]) rfl (lock_new w4 ((dt : Int), a, i) _) (flat_one _) (by unfold maxLen; omega) (by omega) (Nat.zero_le _) ?_; intro v2 w2 hown2 hgr2 hap2; obtain ⟨g0, X, gX, hup, g2⟩ := HPT.out v2 w2 _ hown2 hgr2 hap2; clear hap2 hgr2; obtain ⟨ad6, c6, rfl⟩ : ∃ ad c, v2 = .slice ad (n5 + 1) c := tail_slice2 hown2; have HK2 := hid_l g2; clear g2 hown2))
      all_goals
        obtain ⟨c7, hs7⟩ := HS4.out.step HK2.out
        have HS7 := hid_l hs7
        clear hs7
        go_wp2_with fail
        go_end0
        exact ⟨rfl, by rw [HC.out]; exact HS7.out.done⟩
end Go.Proofs.YtmjjiehnjghndaaGreat
