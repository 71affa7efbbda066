/-
  PROVED HERE: laneref2.Runner's method do, over a runner in memory: what one op of a deal that does not wait comes to, by each way, if calls of 'do' with less behind do what chapter 9 says.
  Conditions: that premise.
-/
import Derived.Test.YtjaeaanpbdmfgaeGreatDoorRefStrict4
import Derived.Test.YtjaeaanpbdmfgaeGreatDoorDoPlain
namespace Go.Proofs.YtjaeaanpbdmfgaeGreatDoor
open Go.RowKit

/-- An op in a block of its own. -/
def OpBox (w : World) (P : Nat) (x : Op3) : Prop := w.cell? ⟨P, 0, none⟩ = some (.int .i64 x.1) ∧ w.cell? ⟨P, 1, none⟩ = some (.int .i64 x.2.1) ∧ w.cell? ⟨P, 2, none⟩ = some (.int .i64 x.2.2)
theorem OpBox.lt {w : World} {P : Nat} {x : Op3} (h : OpBox w P x) : P < w.heap.size := World.block_lt_of_cell? w _ h.1
theorem OpBox.below {w w1 : World} {P B : Nat} {x : Op3} (h : OpBox w P x) (hb : Below B w w1) (hB : P < B) : OpBox w1 P x :=
  ⟨(hb.cell (p := ⟨P, 0, none⟩) hB).trans h.1, (hb.cell (p := ⟨P, 1, none⟩) hB).trans h.2.1, (hb.cell (p := ⟨P, 2, none⟩) hB).trans h.2.2⟩
theorem OpBox.turn {w w1 : World} {F : Nat → Prop} {P : Nat} {x : Op3} (h : OpBox w P x) (ht : Turns F w w1) (hF : ¬ F P) : OpBox w1 P x :=
  ⟨(ht.cell (p := ⟨P, 0, none⟩) h.lt hF).trans h.1, (ht.cell (p := ⟨P, 1, none⟩) h.lt hF).trans h.2.1, (ht.cell (p := ⟨P, 2, none⟩) h.lt hF).trans h.2.2⟩
theorem opBox_new (w : World) (t i m : Int) (T : TypeId) : OpBox (w.alloc (.cells #[.int .i64 t, .int .i64 i, .int .i64 m] T)) w.heap.size (t, i, m) := by
  refine ⟨?_, ?_, ?_⟩ <;> simp
/-- A runner with an op beside it, since a world. -/
structure BesideAt (w0 w : World) (R P : Nat) (way : Int) (rv0 : Nat → Value) (x : Op3) (r : Runr) (rv : Nat → Value) : Prop where
  run : RunAt w R way r rv
  box : OpBox w P x
  so : ¬ footR R rv P
  turn : Turns (footR R rv0) w0 w
  feet : ∀ k, footR R rv k → footR R rv0 k ∨ w0.heap.size ≤ k
section
variable {w0 w w1 : World} {R P : Nat} {way : Int} {r r1 : Runr} {rv0 rv : Nat → Value} {x : Op3}
theorem BesideAt.below (h : BesideAt w0 w R P way rv0 x r rv) (hb : Below w.heap.size w w1) : BesideAt w0 w1 R P way rv0 x r rv :=
  ⟨h.run.below hb, h.box.below hb h.box.lt, h.so, h.turn.then_below hb, h.feet⟩
theorem BesideAt.step (h : BesideAt w0 w R P way rv0 x r rv) (hs : RunStep w w1 R way rv r1) : ∃ rv1, BesideAt w0 w1 R P way rv0 x r1 rv1 := by
  obtain ⟨rv1, h1, h2, h3⟩ := hs
  refine ⟨rv1, h1, h.box.turn h2 h.so, fun hk => ?_, h.turn.trans h2 fun k hk hk2 => ?_, fun k hk => ?_⟩
  · rcases h3 P hk with h4 | h4
    · exact h.so h4
    · have := h.box.lt; omega
  · rcases h.feet k hk2 with h4 | h4
    · exact h4
    · omega
  · rcases h3 k hk with h4 | h4
    · exact h.feet k h4
    · exact .inr (Nat.le_trans h.turn.size h4)
theorem BesideAt.done (h : BesideAt w0 w R P way rv0 x r rv) : RunStep w0 w R way rv0 r := ⟨rv, h.run, h.turn, h.feet⟩
end
/-- How many deals are not aborted, as memory has it. -/
def liveAt (w : World) (R d : Nat) : Nat := match w.cell? ⟨R, 38 + d, none⟩ with | some (.bool false) => 1 | _ => 0
def liveN (w : World) (R : Nat) : Nat := liveAt w R 1 + liveAt w R 2 + liveAt w R 3 + liveAt w R 4 + liveAt w R 5 + liveAt w R 6
theorem RunAt.live {w : World} {R : Nat} {way : Int} {r : Runr} {rv : Nat → Value} (h : RunAt w R way r rv) : liveN w R = cnt6 fun d => !r.out d := by
  have h1 : ∀ d : Nat, d < 7 → liveAt w R d = (!r.out (d : Int)).toNat := fun d hd => by
    unfold liveAt
    rw [h.c38 hd]
    cases r.out (d : Int) <;> rfl
  unfold liveN cnt6
  rw [h1 1 (by omega), h1 2 (by omega), h1 3 (by omega), h1 4 (by omega), h1 5 (by omega), h1 6 (by omega)]
  rfl
theorem isOp_what {o : Op3} (h : isOpB o = true) : (o.2.1 = 1 ∨ o.2.1 = 2 ∨ o.2.1 = 3 ∨ o.2.1 = 4) := by
  simp [isOpB] at h
  omega
def boolN : Value → Nat
  | .bool true => 1
  | _ => 0
set_option maxHeartbeats 32000000 in
set_option maxRecDepth 100000 in
theorem do_run {way : Int} {n : Nat} (hD : DoC way n) : DoC way (n + 1) := by
  intro R r rv o w h hg hp hs ho hnw hop
  have HF : Hid (FreeC way n) := free_run hD
  have HA : Hid (AbortC way n) := abort_run (free_run hD)
  obtain ⟨h1, h6⟩ := isOp_range hop
  obtain ⟨t, a, i⟩ := o
  simp only at h1 h6 ho hnw
  obtain ⟨dt, rfl⟩ : ∃ d : Nat, t = d := ⟨t.toNat, by omega⟩
  have HG : Hid (Good r ∧ pot r ≤ 46 ∧ sum6 r.behind ≤ n ∧ r.out (dt : Int) = false ∧ r.waits (dt : Int) = false) := ⟨hg, hp, by omega, ho, hnw⟩
  have HTB := hid_of2 (hg.tabs (by omega))
  have HTD : Hid (∀ x ∈ r.tab.2, 1 ≤ x.1 ∧ x.1 ≤ 6) := fun x hx => (hg.t2 x hx).2
  have HDW : Hid (doN way (n + 1) r ((dt : Int), a, i) = doW way (doN way n) r ((dt : Int), a, i)) := rfl
  obtain ⟨i0, hi, hz0, hs0, hy0⟩ := info_parts infoOpS
  have HI : Hid (Tryz.prog.info? 43 = some i0 ∧ i0.zero = some (.agg #[.int .i64 0, .int .i64 0, .int .i64 0]) ∧ i0.size = 3 ∧ i0.bytes = 24) := ⟨hi, hz0, hs0, hy0⟩
  have HDO := hid_of2 (doN_ok way n)
  have HRUN : Hid (RunAt w R way r rv) := h
  have hRl := h.lt
  have hd1 : 1 ≤ dt := by omega
  have hd6 : dt ≤ 6 := by omega
  have hd0 : (0 : Int) ≤ (dt : Int) := by omega
  have hdn : ¬ (dt : Int) < 0 := by omega
  have hd7 : (dt : Int) < 7 := by omega
  clear hD hg hp hs ho hnw hop hi hz0 hs0 hy0 h h1 h6
  go_enter Tryz.func11, Tryz.ntmps11
  go_upto_region 1 with (fail)
  obtain ⟨W, hW⟩ : ∃ W, W = w.alloc (.cells #[.int .i64 (dt : Int), .int .i64 a, .int .i64 i] 43) := ⟨_, rfl⟩
  rw [← hW]
  have hbx : OpBox W w.heap.size ((dt : Int), a, i) := by rw [hW]; exact opBox_new _ _ _ _ _
  have hbW : Below w.heap.size w W := by rw [hW]; exact (Below.refl _ w).alloc (Nat.le_refl _) _
  obtain ⟨P, hP⟩ : ∃ P, P = w.heap.size := ⟨_, rfl⟩
  have HB : Hid (BesideAt w W R P way rv ((dt : Int), a, i) r rv) := by
    refine ⟨HRUN.out.below hbW, by rw [hP]; exact hbx, fun hk => ?_, Turns.of_below hbW, fun _ hk => .inl hk⟩
    have := (HRUN.out.foot_lt hk).2
    omega
  rw [← hP] at hbx ⊢
  obtain ⟨p0, p1, p2⟩ := hbx
  simp only at p0 p1 p2
  have hPW : P < W.heap.size := World.block_lt_of_cell? W _ p0
  have hRW : R < W.heap.size := HB.out.run.lt
  clear hW hbW hP
  -- what is told, wherever it is asked
  have HTELL : Hid (∀ (Z : World) (rz : Runr) (rvz : Nat → Value), RunAt Z R way rz rvz → rz.told.length ≤ 47 → ∃ ad5 n5 c5, n5 ≤ 47 ∧ Z.cell? ⟨R, 45, none⟩ = some (.slice ad5 n5 c5) ∧ (∀ ob : Obj, (Z.alloc ob).cell? ⟨R, 45, none⟩ = some (.slice ad5 n5 c5)) ∧ Z.ownsRow (R + 1) 43 3 (.slice ad5 n5 c5) n5 (flat rz.told) ∧ R + 1 ≤ Z.heap.size ∧ ∀ v2 w2 (ob : Obj), w2.ownsRow (R + 1) 43 3 v2 (n5 + 1) (flat rz.told ++ flat [((dt : Int), a, i)]) → (Z.drew.alloc ob).grownBy w2 (Value.slice ad5 n5 c5).ownBlock → (∀ g, v2.ownBlock = some g → (Value.slice ad5 n5 c5).ownBlock = some g ∨ (Z.drew.alloc ob).heap.size ≤ g) → w2.cell? ⟨R, 45, none⟩ = some (.slice ad5 n5 c5) ∧ w2.frozen? ⟨R, 45, none⟩ = false ∧ RunStep Z (w2.setCell ⟨R, 45, none⟩ v2) R way rvz { rz with told := rz.told ++ [((dt : Int), a, i)] }) := fun Z rz rvz hz hzl => by
    obtain ⟨ad5, c5, e5, -⟩ := own_slice3 hz.told
    have c45 := hz.c45
    rw [e5] at c45
    refine ⟨ad5, rz.told.length, c5, hzl, c45, fun ob => by rw [World.cell?_alloc_lt _ _ ⟨R, 45, none⟩ hz.lt]; exact c45, by have := hz.told; rw [e5] at this; exact this, hz.lt, fun v2 w2 ob k1 k2 k3 => hz.tellD e5 rfl k1 k2 k3⟩
  by_cases ha : 3 ≤ a
  · have hal : (3 : Int) ≤ a := ha
    have HE : Hid (doW way (doN way n) r ((dt : Int), a, i) = freeR (doN way n) { r with told := r.told ++ [((dt : Int), a, i)] } (dt : Int)) := by show doW _ _ _ _ = _; unfold doW; rw [if_pos ha]
    obtain ⟨ad5, n5, c5, hn5, c45, hc45, how, hR1, hpt⟩ := HTELL.out W r rv HB.out.run HTB.out.2.2.1
    have HV := hid_of2 how
    have HPT := hid_of2 hpt
    clear how hpt ha
    go_wp2_with fail
    go_region_law (refine step_append_apart rfl (.tmp 17) (.tmp 19) 22 rfl (R + 1) 43 i0 (.agg #[.int .i64 0, .int .i64 0, .int .i64 0]) 3 24 Tryz.underlying22 HI.out.1 HI.out.2.1 HI.out.2.2.1 HI.out.2.2.2 rfl (by decide) (.slice ad5 n5 c5) n5 (flat r.told) (by simp [Act.eval]) (HV.out.alloc _) ⟨W.heap.size, 0, none⟩ 1 1 (flat [((dt : Int), a, i)]) (by simp [Act.eval]) rfl (lock_new W ((dt : Int), a, i) _) (flat_one _) (by unfold maxLen; omega) (by omega) (by simp; omega) ?_; intro v2 w2 hown2 hgr2 hap2; obtain ⟨g0, g1, g2⟩ := HPT.out v2 w2 _ hown2 hgr2 hap2; clear hap2 hgr2; obtain ⟨ad6, c6, rfl, -⟩ := own_slice3 hown2; have HK2 := hid_of2 g2; clear g2 hown2)
    all_goals
      obtain ⟨rvb, hbb⟩ := HB.out.step HK2.out
      obtain ⟨W2, hW2⟩ : ∃ W2, W2 = w2.setCell ⟨R, 45, none⟩ (.slice ad6 (n5 + 1) c6) := ⟨_, rfl⟩
      rw [← hW2] at hbb ⊢
      have HBB := hid_of2 hbb
      obtain ⟨q0, q1, q2⟩ := hbb.box
      simp only at q0 q1 q2
      clear hW2 hbb g0 g1 HK2 HPT hc45 c45 HV p0 p1 p2
      go_wp2_with fail
      refine (HF.out R { r with told := r.told ++ [((dt : Int), a, i)] } rvb (dt : Int) W2 HBB.out.run (free_good (tell_ok HG.out.1 _).1 _) HTB.out.1 HTB.out.2.1 HTD.out (by rw [(tell_ok HG.out.1 _).2]; have := HG.out.2.1; omega) HG.out.2.2.1).mono ?_
      rintro e W3 ⟨rfl, hst⟩
      obtain ⟨rvc, hbc⟩ := HBB.out.step hst
      have HBC := hid_of2 hbc
      clear hst hbc q0 q1 q2
      go_wp2_with fail
      refine bodyPost_ret (results_none Tryz.results11 _ _ _) rfl ⟨rfl, ?_⟩
      rw [HDW.out, HE.out]
      exact HBC.out.done
  · have hal : ¬ (3 : Int) ≤ a := ha
    have HASK : Hid (Calls Tryz.prog 19 #[.pointer (some ⟨R, 1, none⟩), .agg #[.int .i64 (dt : Int), .int .i64 i, .int .i64 a]] W.drew fun e w' => e = .returned (.tuple #[.bool (askT r.tab ((dt : Int), i, a)).1.1, .int .i64 (askT r.tab ((dt : Int), i, a)).1.2]) ∧ ∃ rva, BesideAt w w' R P way rv ((dt : Int), a, i) { r with tab := (askT r.tab ((dt : Int), i, a)).2 } rva) := by
      have hb0 := HB.out.below (Below.refl W.heap.size W).drew
      refine (refAsk_any 47 R 1 _ (rv 0) (rv 1) r.tab ((dt : Int), i, a) W.drew hb0.run.table (by have := HTB.out.1; omega) (by have := HTB.out.2.1; omega)).mono ?_
      rintro e w' ⟨he, hst⟩
      exact ⟨he, hb0.step (hb0.run.setTab hst)⟩
    obtain ⟨s2, hs2⟩ : ∃ s2, (askT r.tab ((dt : Int), i, a)).2 = s2 := ⟨_, rfl⟩
    obtain ⟨b, hb⟩ : ∃ b, (askT r.tab ((dt : Int), i, a)).1.1 = b := ⟨_, rfl⟩
    obtain ⟨en, hen⟩ : ∃ en, (askT r.tab ((dt : Int), i, a)).1.2 = en := ⟨_, rfl⟩
    rw [hs2, hb, hen] at HASK
    have HS2 : Hid ((askT r.tab ((dt : Int), i, a)).2 = s2 ∧ (askT r.tab ((dt : Int), i, a)).1.1 = b) := ⟨hs2, hb⟩
    have HE : Hid (doW way (doN way n) r ((dt : Int), a, i) = if b = true then { r with tab := s2, told := r.told ++ [((dt : Int), a, i)] } else wayR way (doN way n) (wait0 r ((dt : Int), a, i)) (dt : Int)) := by show doW _ _ _ _ = _; unfold doW; rw [if_neg ha]; simp only [hb, hs2]
    clear hs2 hb hen ha
    go_wp2_with fail
    go_region_held3 (fun w' => w'.cell? ⟨P, 0, none⟩ = some (.int .i64 (dt : Int)) ∧ w'.cell? ⟨P, 1, none⟩ = some (.int .i64 a) ∧ w'.cell? ⟨P, 2, none⟩ = some (.int .i64 i)) (first | exact ⟨y0, y1, y2⟩ | exact ⟨p0, p1, p2⟩) (first | (go_at_call 19; refine HASK.out.mono ?_; rintro e w2 ⟨rfl, rva, hba⟩; obtain ⟨y0, y1, y2⟩ := hba.box; have HBA := hid_of2 hba; clear hba))
    all_goals
      clear p0 p1 p2 HASK
      cases b with
      | true =>
        have HE1 : Hid (doW way (doN way n) r ((dt : Int), a, i) = { r with tab := s2, told := r.told ++ [((dt : Int), a, i)] }) := by show _ = _; rw [HE.out, if_pos (by decide)]
        clear HE
        obtain ⟨ad5, n5, c5, hn5, c45, hc45, how, hR1, hpt⟩ := HTELL.out w2 { r with tab := s2 } rva HBA.out.run HTB.out.2.2.1
        have HV : Hid (w2.ownsRow (R + 1) 43 3 (.slice ad5 n5 c5) n5 (flat r.told)) := how
        have HPT := hid_of2 hpt
        have hP2 : P < w2.heap.size := World.block_lt_of_cell? w2 _ y0
        clear how hpt
        go_wp2_with fail
        go_region_law (refine step_append_apart rfl (.tmp 46) (.tmp 48) 22 rfl (R + 1) 43 i0 (.agg #[.int .i64 0, .int .i64 0, .int .i64 0]) 3 24 Tryz.underlying22 HI.out.1 HI.out.2.1 HI.out.2.2.1 HI.out.2.2.2 rfl (by decide) (.slice ad5 n5 c5) n5 (flat r.told) (by simp [Act.eval]) (HV.out.alloc _) ⟨w2.heap.size, 0, none⟩ 1 1 (flat [((dt : Int), a, i)]) (by simp [Act.eval]) rfl (lock_new w2 ((dt : Int), a, i) _) (flat_one _) (by unfold maxLen; omega) (by omega) (by simp; omega) ?_; intro v3 w3 hown3 hgr3 hap3; obtain ⟨g0, g1, g2⟩ := HPT.out v3 w3 _ hown3 hgr3 hap3; clear hap3 hgr3; obtain ⟨ad6, c6, rfl, -⟩ := own_slice3 hown3; have HK2 := hid_of2 g2; clear g2 hown3)
        all_goals
          obtain ⟨rvb, hbb⟩ := HBA.out.step HK2.out
          have HBB := hid_of2 hbb
          clear hbb
          go_wp2_with fail
          refine bodyPost_ret (results_none Tryz.results11 _ _ _) rfl ⟨rfl, ?_⟩
          rw [HDW.out, HE1.out]
          exact HBB.out.done
      | false =>
        have HE2 : Hid (doW way (doN way n) r ((dt : Int), a, i) = wayR way (doN way n) (wait0 r ((dt : Int), a, i)) (dt : Int)) := by show _ = _; rw [HE.out, if_neg (by decide)]
        have c3' := HBA.out.run.c3 (d := dt) (by omega)
        have z3' := HBA.out.run.thaw (3 + dt)
        clear HE
        go_wp2_with fail
        go_region
        obtain ⟨k1, t1⟩ := HBA.out.run.setWaits (d := dt) (by omega) true
        obtain ⟨rvb, hbb0⟩ := HBA.out.step ⟨rva, k1, t1, fun _ hk => .inl hk⟩
        have hbb := hbb0.below (Below.refl _ _).drew
        obtain ⟨X, hX⟩ : ∃ X, X = (w2.setCell ⟨R, 3 + dt, none⟩ (.bool true)).drew := ⟨_, rfl⟩
        rw [← hX] at hbb ⊢
        have HBX := hid_of2 hbb
        obtain ⟨q0, q1, q2⟩ := hbb.box
        simp only at q0 q1 q2
        obtain ⟨o0, o1, o2⟩ := hbb.run.c10 (d := dt) (by omega)
        obtain ⟨⟨ot, oa, oi⟩, hoo⟩ : ∃ o : Op3, r.op (dt : Int) = o := ⟨_, rfl⟩
        simp only [hoo] at o0 o1 o2
        have z0 := hbb.run.thaw (10 + dt * 3)
        have z1 := hbb.run.thaw (10 + dt * 3 + 1)
        have z2 := hbb.run.thaw (10 + dt * 3 + 2)
        have hRX := hbb.run.lt
        have hPX : P < X.heap.size := World.block_lt_of_cell? X _ q0
        clear hX hbb hbb0 k1 t1 HBA c3' z3' y0 y1 y2 hoo hPW hRW HB
        go_wp2_with fail
        go_region
        obtain ⟨k2, t2⟩ := HBX.out.run.setOp (d := dt) (by omega) ((dt : Int), a, i)
        obtain ⟨rvc, hbc0⟩ := HBX.out.step ⟨rvb, k2, t2, fun _ hk => .inl hk⟩
        have hbc := hbc0.below (Below.refl _ _).drew
        obtain ⟨Y, hY⟩ : ∃ Y, Y = (((X.setCell ⟨R, 10 + dt * 3, none⟩ (.int .i64 (dt : Int))).setCell ⟨R, 10 + dt * 3 + 1, none⟩ (.int .i64 a)).setCell ⟨R, 10 + dt * 3 + 2, none⟩ (.int .i64 i)).drew := ⟨_, rfl⟩
        rw [← hY]
        have hbY : BesideAt w Y R P way rv ((dt : Int), a, i) (wait0 r ((dt : Int), a, i)) rvc := by
          rw [hY]
          unfold wait0
          simp only [HS2.out.1]
          exact hbc
        obtain ⟨hgw, hpw⟩ := wait_ok (o := ((dt : Int), a, i)) HG.out.1 HG.out.2.2.2.1 HG.out.2.2.2.2 (show (1 : Int) ≤ (dt : Int) by omega) (show (dt : Int) ≤ 6 by omega)
        have hsw : sum6 (wait0 r ((dt : Int), a, i)).behind ≤ n := HG.out.2.2.1
        have how : (wait0 r ((dt : Int), a, i)).out (dt : Int) = false := HG.out.2.2.2.1
        obtain ⟨rs, hrs⟩ : ∃ rs, wait0 r ((dt : Int), a, i) = rs := ⟨_, rfl⟩
        rw [hrs] at hbY hgw hpw hsw how
        have HGW : Hid (Good rs ∧ pot rs ≤ 47 ∧ sum6 rs.behind ≤ n ∧ rs.out (dt : Int) = false) := ⟨hgw, by rw [hpw]; have := HG.out.2.1; omega, hsw, how⟩
        have HBY := hid_of2 hbY
        have HE3 : Hid (doN way (n + 1) r ((dt : Int), a, i) = wayR way (doN way n) rs (dt : Int)) := by show _ = _; rw [HDW.out, HE2.out, hrs]
        have HTS := hid_of2 (hgw.tabs (by rw [hpw]; have := HG.out.2.1; omega))
        obtain ⟨s0, s1, s2'⟩ := hbY.box
        simp only at s0 s1 s2'
        clear hY hbc hbc0 k2 t2 HBX q0 q1 q2 o0 o1 o2 z0 z1 z2 hRX hPX hgw hpw hsw how hrs hbY HE2 HDW HTB HTD HG HS2 HRUN hRl HTELL HF
        go_wp2_with fail
        refine (forWhom_any R way rs rvc (dt : Int) Y HBY.out.run (by have := HTS.out.1; omega) (by have := HTS.out.2.1; omega)).mono ?_
        rintro e w4 ⟨v4, rfl, hi4, hb4⟩
        obtain ⟨ad4, c4, rfl, htl4⟩ := own_slice3 hi4
        have HB4 := hid_of2 (HBY.out.below hb4)
        have HI4 : Hid (OwnI w4 Y.heap.size (.slice ad4 (whomR rs.tab (dt : Int)).length c4) (whomR rs.tab (dt : Int))) := hi4
        have c0' := HB4.out.run.c0
        obtain ⟨r0, r1, r2⟩ := HB4.out.box
        simp only at r0 r1 r2
        have hwd : ∀ d x, x ∈ whomR rs.tab d → 1 ≤ x ∧ x ≤ 6 := fun d x hx => (whom_deal HGW.out.1 hx).2
        have HWD := hid_of2 hwd
        have hw6 := whom_six hwd (dt : Int)
        clear hb4 hi4 s0 s1 s2' HBY hwd
        by_cases hw0 : way = 0
        · have HE4 : Hid (doN way (n + 1) r ((dt : Int), a, i) = if ringR rs.tab (dt : Int) = true then abortR (doN way n) rs (dt : Int) else rs) := by show _ = _; rw [HE3.out]; unfold wayR; rw [if_pos hw0]
          have hwb : (way == 0) = true := by rw [hw0]; rfl
          clear HE3 htl4
          go_wp2_with fail
          refine (ring_run R way rs rvc (dt : Int) w4 HB4.out.run (by have := HTS.out.1; omega) (by have := HTS.out.2.1; omega) HWD.out (by omega) (by omega)).mono ?_
          rintro e w5 ⟨rfl, hb5⟩
          have HB5 := hid_of2 (HB4.out.below hb5)
          obtain ⟨u0, u1, u2⟩ := HB5.out.box
          simp only at u0 u1 u2
          clear hb5
          cases hr : ringR rs.tab (dt : Int) with
          | false =>
            have HE5 : Hid (doN way (n + 1) r ((dt : Int), a, i) = rs) := by show _ = _; rw [HE4.out, hr, if_neg (by decide)]
            clear hr HE4
            go_wp2_with fail
            go_end0
            exact ⟨rfl, by rw [HE5.out]; exact HB5.out.done⟩
          | true =>
            have HE5 : Hid (doN way (n + 1) r ((dt : Int), a, i) = abortR (doN way n) rs (dt : Int)) := by show _ = _; rw [HE4.out, hr, if_pos (by decide)]
            clear hr HE4
            go_wp2_with fail
            refine (HA.out R rs rvc dt w5 HB5.out.run HGW.out.1 hd1 hd6 HGW.out.2.2.2 HGW.out.2.1 HGW.out.2.2.1).mono ?_
            rintro e w6 ⟨rfl, hst⟩
            obtain ⟨rvd, hbd⟩ := HB5.out.step hst
            have HBD := hid_of2 hbd
            clear hst hbd
            go_wp2_with fail
            go_end0
            exact ⟨rfl, by rw [HE5.out]; exact HBD.out.done⟩
        · by_cases hw1 : way = 1
          · have hwb : (way == 0) = false := by simpa using hw0
            have hwb1 : (way == 1) = true := by rw [hw1]; rfl
            cases hwl : whomR rs.tab (dt : Int) with
            | nil =>
              have HE5 : Hid (doN way (n + 1) r ((dt : Int), a, i) = rs) := by show _ = _; rw [HE3.out]; unfold wayR; rw [if_neg hw0, if_pos hw1, hwl]
              have hlen : decide ((0 : Int) > 0) = false := rfl
              clear HE3 htl4 HI4 hwl
              simp only [List.length_nil]
              go_wp2_with fail
              go_quiet (fail)
              go_wp2_with fail
              go_end0
              exact ⟨rfl, by rw [HE5.out]; exact (HB4.out.below (below_drewN (Below.refl _ _) _)).done⟩
            | cons x q =>
              obtain ⟨g4, rfl, hg4b, hg4, -⟩ := htl4 (by rw [hwl]; simp)
              have e0 : w4.cell? ⟨g4, 0, none⟩ = some (.int .i64 x) := by
                have h1 := World.ownsRow.cells HI4.out (g := g4) rfl 0 (.int .i64 x) (by rw [hwl]; rfl)
                rw [Addr.add_lit] at h1
                exact h1
              have HX : Hid (1 ≤ x ∧ x ≤ 6) := HWD.out (dt : Int) x (by rw [hwl]; exact List.mem_cons_self)
              by_cases hx : x < (dt : Int)
              · have HE5 : Hid (doN way (n + 1) r ((dt : Int), a, i) = abortR (doN way n) rs (dt : Int)) := by show _ = _; rw [HE3.out]; unfold wayR; rw [if_neg hw0, if_pos hw1, hwl]; simp only; rw [if_pos hx]
                rw [hwl] at hw6
                simp only [List.length_cons] at hw6 ⊢
                have hl0 : (0 : Int) < (q.length : Int) + 1 := by omega
                have hl1 : decide ((q.length : Int) + 1 > 0) = true := decide_eq_true hl0
                clear HE3 HI4 hwl
                go_wp2_with fail
                go_quiet (fail)
                have HB5 := hid_of2 (HB4.out.below (below_drewN (Below.refl _ w4) nq))
                obtain ⟨Z, hZ⟩ : ∃ Z, Z = w4.drewN nq := ⟨_, rfl⟩
                rw [← hZ] at HB5 ⊢
                obtain ⟨u0, u1, u2⟩ := HB5.out.box
                simp only at u0 u1 u2
                clear hZ r0 r1 r2 e0 c0' HB4
                go_wp2_with fail
                refine (HA.out R rs rvc dt Z HB5.out.run HGW.out.1 hd1 hd6 HGW.out.2.2.2 HGW.out.2.1 HGW.out.2.2.1).mono ?_
                rintro e w6 ⟨rfl, hst⟩
                obtain ⟨rvd, hbd⟩ := HB5.out.step hst
                have HBD := hid_of2 hbd
                clear hst hbd
                go_wp2_with fail
                go_end0
                exact ⟨rfl, by rw [HE5.out]; exact HBD.out.done⟩
              · have HE5 : Hid (doN way (n + 1) r ((dt : Int), a, i) = rs) := by show _ = _; rw [HE3.out]; unfold wayR; rw [if_neg hw0, if_pos hw1, hwl]; simp only; rw [if_neg hx]
                rw [hwl] at hw6
                simp only [List.length_cons] at hw6 ⊢
                have hl0 : (0 : Int) < (q.length : Int) + 1 := by omega
                have hl1 : decide ((q.length : Int) + 1 > 0) = true := decide_eq_true hl0
                clear HE3 HI4 hwl
                go_wp2_with fail
                go_quiet (fail)
                go_wp2_with fail
                go_end0
                exact ⟨rfl, by rw [HE5.out]; exact (HB4.out.below (below_drewN (Below.refl _ _) _)).done⟩
          · obtain ⟨TG, hTG⟩ : ∃ TG, woundN (doN way n) (dt : Int) 7 rs = TG := ⟨_, rfl⟩
            have HE5 : Hid (doN way (n + 1) r ((dt : Int), a, i) = TG) := by show _ = _; rw [HE3.out]; unfold wayR; rw [if_neg hw0, if_neg hw1, hTG]
            have HTG := hid_of2 hTG
            have hwb : (way == 0) = false := by simpa using hw0
            have hwb1 : (way == 1) = false := by simpa using hw1
            have HLV : Hid ((cnt6 fun d => !rs.out d) + 1 ≤ 7) := by
              have h1 := HGW.out.1.vict
              show _ ≤ _
              omega
            clear HE3 htl4 HI4 hw0 hw1 hTG r0 r1 r2 hw6
            go_wp2_with fail
            go_loopw [6, 8, 9] (fun _ v8 _ wr => ∃ (b : Bool) (m : Nat) (rm : Runr) (rvm : Nat → Value), v8 = .bool b ∧ BesideAt w wr R P way rv ((dt : Int), a, i) rm rvm ∧ Good rm ∧ pot rm ≤ 47 ∧ sum6 rm.behind ≤ n ∧ (cnt6 fun d => !rm.out d) + 1 ≤ m ∧ woundN (doN way n) (dt : Int) m rm = TG ∧ (b = false → rm = TG)) (fun _ v8 _ wr => 2 * liveN wr R + boolN v8)
            case atStart => exact ⟨true, 7, rs, rvc, rfl, HB4.out, HGW.out.1, HGW.out.2.1, HGW.out.2.2.1, HLV.out, HTG.out, fun h => by cases h⟩
            case round =>
              obtain ⟨b, m, rm, rvm, rfl, hbm, hgood, hpot, hsum, hlv, hwn, hbf⟩ := hrel
              obtain ⟨WR, hWR⟩ : ∃ W : World, W = wr := ⟨_, rfl⟩
              subst hWR
              have HBM := hid_of2 hbm
              have HOK : Hid (Good rm ∧ pot rm ≤ 47 ∧ sum6 rm.behind ≤ n ∧ (cnt6 fun d => !rm.out d) + 1 ≤ m ∧ woundN (doN way n) (dt : Int) m rm = TG) := ⟨hgood, hpot, hsum, hlv, hwn⟩
              cases b with
              | false =>
                have HEQ : Hid (rm = TG) := hbf rfl
                clear hbm hgood hpot hsum hlv hwn hbf
                go_wp2_with fail
                go_end0
                exact ⟨rfl, by rw [HE5.out, ← HEQ.out]; exact HBM.out.done⟩
              | true =>
                have HLIV : Hid (liveN WR R = cnt6 fun d => !rm.out d) := hbm.run.live
                obtain ⟨s0, s1, s2'⟩ := hbm.box
                simp only at s0 s1 s2'
                have HTM := hid_of2 (hgood.tabs hpot)
                have hwd : ∀ d x, x ∈ whomR rm.tab d → 1 ≤ x ∧ x ≤ 6 := fun d x hx => (whom_deal hgood hx).2
                have HWM : Hid (∀ x, x ∈ whomR rm.tab (dt : Int) → rm.out x = false ∧ 1 ≤ x ∧ x ≤ 6) := fun x hx => whom_deal hgood hx
                have hw6 := whom_six hwd (dt : Int)
                clear hbm hgood hpot hsum hlv hwn hbf hwd
                go_wp2_with fail
                refine (forWhom_any R way rm rvm (dt : Int) WR HBM.out.run (by have := HTM.out.1; omega) (by have := HTM.out.2.1; omega)).mono ?_
                rintro e w5 ⟨v5, rfl, hi5, hb5⟩
                obtain ⟨ad5, c5, rfl, htl5⟩ := own_slice3 hi5
                have HB5 := hid_of2 (HBM.out.below hb5)
                obtain ⟨wl, hwl⟩ : ∃ wl, whomR rm.tab (dt : Int) = wl := ⟨_, rfl⟩
                rw [hwl] at hi5 htl5 HWM hw6 ⊢
                have HWL : Hid (whomR rm.tab (dt : Int) = wl) := hwl
                have HI5 : Hid (∀ Z, Below w5.heap.size w5 Z → OwnI Z WR.heap.size (.slice ad5 wl.length c5) wl) := fun Z hZ => OwnI.below hi5 hZ (Nat.le_refl _)
                have HLV5 : Hid (liveN w5 R = cnt6 fun d => !rm.out d) := HB5.out.run.live
                clear hb5 hi5 hwl s0 s1 s2'
                go_wp2_with fail
                go_loopw [8, 9] (fun v8 v9 wr => ∃ (j : Nat) (b : Bool), v8 = .bool b ∧ v9 = .int .i64 j ∧ j ≤ wl.length ∧ (b = false → (∀ i, i < j → ¬ (dt : Int) < wl.getD i 0) ∧ Below w5.heap.size w5 wr) ∧ (b = true → ∃ (v : Int) (rvz : Nat → Value), youngR rm.tab (dt : Int) = some v ∧ BesideAt w wr R P way rv ((dt : Int), a, i) (abortR (doN way n) rm v) rvz)) (fun _ v9 _ => wl.length - (intOf v9).toNat)
                case atStart => exact ⟨0, false, rfl, rfl, Nat.zero_le _, fun _ => ⟨fun i hi => absurd hi (by omega), Below.refl _ _⟩, fun h => by cases h⟩
                case round =>
                  obtain ⟨j, b, rfl, rfl, hj, hbf, hbt⟩ := hrel
                  cases b with
                  | true =>
                    obtain ⟨v, rvz, hyo, hbz⟩ := hbt rfl
                    have HBZ := hid_of2 hbz
                    have HYO := hid_of2 hyo
                    have hvm := (young_mem hyo).1
                    rw [HWL.out] at hvm
                    have HVD := hid_of2 (HWM.out v hvm)
                    have HAB := hid_of2 (abort_ok HDO.out HOK.out.1 HVD.out.2.1 HVD.out.2.2 HVD.out.1)
                    have HLZ : Hid (liveN wr R + 1 ≤ cnt6 fun d => !rm.out d) := by
                      show _ ≤ _
                      rw [hbz.run.live]
                      exact live_less HVD.out.2.1 HVD.out.2.2 HVD.out.1 HAB.out.2 HAB.out.1.outs
                    obtain ⟨m2, rfl⟩ : ∃ m2, m = m2 + 1 := ⟨m - 1, by have := HOK.out.2.2.2.1; omega⟩
                    have HWN : Hid (woundN (doN way n) (dt : Int) m2 (abortR (doN way n) rm v) = TG) := by show _ = _; rw [← wound_some HYO.out]; exact HOK.out.2.2.2.2
                    have HCN : Hid ((cnt6 fun d => !(abortR (doN way n) rm v).out d) + 1 ≤ m2) := by
                      have h1 := HLZ.out
                      rw [hbz.run.live] at h1
                      have h2 := HOK.out.2.2.2.1
                      show _ ≤ _
                      omega
                    clear hbf hbt hyo hbz hvm
                    by_cases hlt : j < wl.length
                    · have hlt' : (j : Int) < (wl.length : Int) := by omega
                      have hltd : decide ((j : Int) < (wl.length : Int)) = true := decide_eq_true hlt'
                      go_wp2_with fail
                      go_roundw
                      case rel => exact ⟨true, m2, _, rvz, rfl, HBZ.out, HAB.out.1.good, by have := HAB.out.1.pots; have := HOK.out.2.1; omega, Nat.le_trans (sum_mono HAB.out.1.less) HOK.out.2.2.1, HCN.out, HWN.out, fun h => by cases h⟩
                      case measure => rw [HLIV.out]; have := HLZ.out; simp [boolN]; omega
                    · have hlt' : ¬ (j : Int) < (wl.length : Int) := by omega
                      have hltd : decide ((j : Int) < (wl.length : Int)) = false := decide_eq_false hlt'
                      go_wp2_with fail
                      go_roundw
                      case rel => exact ⟨true, m2, _, rvz, rfl, HBZ.out, HAB.out.1.good, by have := HAB.out.1.pots; have := HOK.out.2.1; omega, Nat.le_trans (sum_mono HAB.out.1.less) HOK.out.2.2.1, HCN.out, HWN.out, fun h => by cases h⟩
                      case measure => rw [HLIV.out]; have := HLZ.out; simp [boolN]; omega
                  | false =>
                    obtain ⟨hno, hbel⟩ := hbf rfl
                    have HNO := hid_of2 hno
                    have HBE := hid_of2 hbel
                    have HB6 := hid_of2 (HB5.out.below hbel)
                    have HOI := hid_of2 (HI5.out wr hbel)
                    obtain ⟨r0, r1, r2⟩ := HB6.out.box
                    simp only at r0 r1 r2
                    clear hbf hbt hno hbel
                    by_cases hlt : j < wl.length
                    · have hlt' : (j : Int) < (wl.length : Int) := by omega
                      have hltd : decide ((j : Int) < (wl.length : Int)) = true := decide_eq_true hlt'
                      obtain ⟨g5, rfl, hg5b, hg5, -⟩ := htl5 (by omega)
                      obtain ⟨x, hx⟩ : ∃ x, wl.getD j 0 = x := ⟨_, rfl⟩
                      have e0 : wr.cell? ⟨g5, j, none⟩ = some (.int .i64 x) := by
                        have h1 := World.ownsRow.cells HOI.out (g := g5) rfl j (.int .i64 x) (by rw [← hx]; simp [List.getD, List.getElem?_eq_getElem hlt])
                        rw [Addr.add_lit, Nat.zero_add] at h1
                        exact h1
                      have HX := hid_of2 hx
                      have hxm : x ∈ wl := by rw [← hx]; simp [List.getD, List.getElem?_eq_getElem hlt]
                      have HXD := hid_of2 (HWM.out x hxm)
                      clear hx hxm
                      by_cases hy : (dt : Int) < x
                      · obtain ⟨dx, rfl⟩ : ∃ d : Nat, x = d := ⟨x.toNat, by have := HXD.out; omega⟩
                        have HYO : Hid (youngR rm.tab (dt : Int) = some (dx : Int)) := young_hit (j := j) (by rw [HWL.out]; exact hlt) (by rw [HWL.out]; exact HX.out) (fun i hi => by rw [HWL.out]; exact HNO.out i hi) hy
                        go_wp2_with fail
                        go_quiet (fail)
                        have HB7 := hid_of2 (HB6.out.below (below_drewN (Below.refl _ wr) nq))
                        have e0' : (wr.drewN nq).cell? ⟨g5, j, none⟩ = some (.int .i64 (dx : Int)) := ((below_drewN (Below.refl wr.heap.size wr) nq).cell (p := ⟨g5, j, none⟩) (World.block_lt_of_cell? wr _ e0)).trans e0
                        obtain ⟨Z, hZ⟩ : ∃ Z, Z = wr.drewN nq := ⟨_, rfl⟩
                        rw [← hZ] at HB7 e0' ⊢
                        clear hZ r0 r1 r2 e0 HB6 HOI
                        go_wp2_with fail
                        refine (HA.out R rm rvm dx Z HB7.out.run HOK.out.1 (by have := HXD.out; omega) (by have := HXD.out; omega) HXD.out.1 HOK.out.2.1 HOK.out.2.2.1).mono ?_
                        rintro e w8 ⟨rfl, hst⟩
                        obtain ⟨rvd, hbd⟩ := HB7.out.step hst
                        have HBD := hid_of2 hbd
                        clear hst hbd e0'
                        go_wp2_with fail
                        go_roundw
                        case rel => exact ⟨j + 1, true, rfl, by go_num, by omega, (fun h => by cases h), fun _ => ⟨(dx : Int), rvd, HYO.out, HBD.out⟩⟩
                        case measure => simp [intOf]; omega
                      · go_wp2_with fail
                        go_quiet (fail)
                        go_wp2_with fail
                        go_roundw
                        case rel => exact ⟨j + 1, false, rfl, by go_num, by omega, fun _ => ⟨fun i hi => by
                          rcases Nat.lt_or_ge i j with h | h
                          · have := HNO.out i h; omega
                          · rw [show i = j by omega, HX.out]; omega, below_drewN HBE.out _⟩, fun h => by cases h⟩
                        case measure => simp [intOf]; omega
                    · have hlt' : ¬ (j : Int) < (wl.length : Int) := by omega
                      have hltd : decide ((j : Int) < (wl.length : Int)) = false := decide_eq_false hlt'
                      obtain rfl : j = wl.length := by omega
                      have HYN : Hid (rm = TG) := by show _ = _; rw [← HOK.out.2.2.2.2, wound_none (young_none (by rw [HWL.out]; exact HNO.out))]
                      have HL6 : Hid (liveN wr R = cnt6 fun d => !rm.out d) := HB6.out.run.live
                      go_wp2_with fail
                      go_roundw
                      case rel => exact ⟨false, m, rm, rvm, rfl, HB6.out, HOK.out.1, HOK.out.2.1, HOK.out.2.2.1, HOK.out.2.2.2.1, HOK.out.2.2.2.2, fun _ => HYN.out⟩
                      case measure => rw [HLIV.out, HL6.out]; simp [boolN]
theorem do_all (way : Int) : ∀ n, DoC way n := by
  intro n
  induction n with
  | zero => intro R r rv o w _ _ _ hs; omega
  | succ n ih => exact do_run ih
end Go.Proofs.YtjaeaanpbdmfgaeGreatDoor
