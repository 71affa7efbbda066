/-
  PROVED HERE: strict.lane's method come, over a run in memory: what an op that is asked for comes to.
  Conditions: the lists are short; nobody's turn is still to come.
-/
import Derived.Test.YtjaeaanpbdmfgaeDoorLane6
namespace Go.Proofs.YtjaeaanpbdmfgaeDoor
open Go.RowKit

theorem tail_slice2 {w : World} {base e size n : Nat} {v : Value} {xs : List Value} (h : Tail w base e size v n xs) : ∃ ad c, v = .slice ad n c := by
  obtain ⟨_, ⟨hv, hd⟩ | ⟨g, off, cap, cur, hv, _⟩⟩ := h
  · exact ⟨none, 0, by rw [hv, hd]⟩
  · exact ⟨_, cap, hv⟩
theorem heap_alloc_lt2 (w : World) (ob : Obj) {g : Nat} (h : g < w.heap.size) : (w.alloc ob).heap[g]? = w.heap[g]? := ((Below.refl w.heap.size w).alloc (Nat.le_refl _) ob).block g h
abbrev noP : Int → Option Op3 := fun _ => none
set_option maxHeartbeats 16000000 in
set_option maxRecDepth 100000 in
theorem come_lane {way : Int} (hway : way = 0 ∨ way = 1 ∨ way = 2) {R : Nat} {r : Runr} {c : Lay} {o : Op3} {w : World} (h : LaneAt w R way r (wm r noP) c) (hg : Good r) (hf : Fits r noP) (hp : pot r ≤ 46) (hs : sum6 r.behind < 41) (hop : isOpB o = true) :
    Calls Tryd.prog 47 #[.pointer (some ⟨R, 0, none⟩), lockV o] w fun e w' => e = .returned (.tuple #[]) ∧ LaneStep w w' R way c (comeR way r o) (wm (comeR way r o) noP) := by
  have HD := hid_l (do_lanes hway 41)
  obtain ⟨h1, h6⟩ := isOp_range hop
  obtain ⟨t, a, i⟩ := o
  simp only at h1 h6
  obtain ⟨dt, rfl⟩ : ∃ d : Nat, t = d := ⟨t.toNat, by omega⟩
  have HG : Hid (Good r ∧ Fits r noP ∧ pot r ≤ 46 ∧ sum6 r.behind < 41 ∧ isOpB ((dt : Int), a, i) = true) := ⟨hg, hf, hp, hs, hop⟩
  obtain ⟨i0, hi, hz0, hs0, hy0⟩ := info_parts infoOpL
  have HI : Hid (Tryd.prog.info? 82 = some i0 ∧ i0.zero = some (.agg #[.int .i64 0, .int .i64 0, .int .i64 0]) ∧ i0.size = 3 ∧ i0.bytes = 24) := ⟨hi, hz0, hs0, hy0⟩
  have hwf : Wf (dt : Int) := wf_deal h1 h6
  have hd1 : 1 ≤ dt := by omega
  have hd6 : dt ≤ 6 := by omega
  have HL := hid_l h
  clear hg hf hp hs hop hi hz0 hs0 hy0 h h1 h6
  go_enter Tryd.func47, Tryd.ntmps47
  go_upto_region 2 with (fail)
  obtain ⟨W, hW⟩ : ∃ W, W = w.alloc (.cells #[.int .i64 (dt : Int), .int .i64 a, .int .i64 i] 82) := ⟨_, rfl⟩
  rw [← hW]
  have hbx : LkBox W w.heap.size ((dt : Int), a, i) := by rw [hW]; exact lkBox_new _ _ _ _ _
  have hbW : Below w.heap.size w W := by rw [hW]; exact (Below.refl _ w).alloc (Nat.le_refl _) _
  obtain ⟨Q, hQ⟩ : ∃ Q, Q = w.heap.size := ⟨_, rfl⟩
  have HQF : Hid (¬ feet R c Q) := fun hk => by have := HL.out.feet_lt hk; omega
  have HSW := hid_l ((Since.start HL.out).below hbW)
  rw [← hQ] at hbx ⊢
  have HBX := hid_l hbx
  obtain ⟨p0, p1, p2⟩ := hbx
  simp only at p0 p1 p2
  have hab := isAborted_run HSW.out.run hwf
  have hPW : Q < W.heap.size := World.block_lt_of_cell? W _ p0
  clear hW hbW hQ
  cases ho : r.out (dt : Int) with
  | true =>
    have hmem : (dt : Int) ∈ r.vict := (HG.out.2.1.vict _).1 ho
    rw [decide_eq_true hmem] at hab
    have HAB := hid_l hab
    have HC : Hid (comeR way r ((dt : Int), a, i) = r) := by show _ = _; unfold comeR; rw [if_pos ho]
    clear hab hmem ho
    go_wp2_with fail
    refine HAB.out.mono ?_
    rintro e w3 ⟨rfl, hw3⟩
    rw [hw3]
    clear hw3
    go_wp2_with fail
    go_end0
    exact ⟨rfl, by rw [HC.out]; exact HSW.out.done⟩
  | false =>
    have hmem : ¬ (dt : Int) ∈ r.vict := fun hm => by rw [(HG.out.2.1.vict _).2 hm] at ho; cases ho
    rw [decide_eq_false hmem] at hab
    have HAB := hid_l hab
    have hiw := isWaiting_run HSW.out.run (wm_lock r noP) hwf
    rw [wm_some r rfl] at hiw
    cases hw : r.waits (dt : Int) with
    | false =>
      have HC : Hid (comeR way r ((dt : Int), a, i) = doN way 41 r ((dt : Int), a, i)) := by show _ = _; unfold comeR; rw [if_neg (by rw [ho]; decide), if_neg (by rw [hw]; decide)]
      rw [hw] at hiw
      have HIW := hid_l hiw
      have HOW := hid_l (And.intro ho hw)
      clear hab hmem ho hw hiw
      go_wp2_with fail
      refine HAB.out.mono ?_
      rintro e w3 ⟨rfl, hw3⟩
      rw [hw3]
      clear hw3
      go_wp2_with fail
      refine HIW.out.mono ?_
      rintro e w4 ⟨rfl, hb4⟩
      have HS4 := hid_l (HSW.out.below hb4)
      obtain ⟨q0, q1, q2⟩ := HBX.out.below hb4
      simp only at q0 q1 q2
      have HDO := hid_l (HD.out R r c noP ((dt : Int), a, i) w4 HS4.out.run HG.out.1 HG.out.2.1 HG.out.2.2.1 HG.out.2.2.2.1 HOW.out.1 HOW.out.2 HG.out.2.2.2.2)
      clear hb4 p0 p1 p2 HBX HSW HIW HAB hPW
      go_wp2_with fail
      refine HDO.out.mono ?_
      rintro e w5 ⟨rfl, hst5⟩
      obtain ⟨c5, hs5⟩ := HS4.out.step hst5
      have HS5 := hid_l hs5
      clear hst5 hs5 q0 q1 q2
      go_wp2_with fail
      go_end0
      exact ⟨rfl, by rw [HC.out]; exact HS5.out.done⟩
    | true =>
      have HC : Hid (comeR way r ((dt : Int), a, i) = { r with behind := setF r.behind (dt : Int) (r.behind (dt : Int) ++ [((dt : Int), a, i)]) }) := by show _ = _; unfold comeR; rw [if_neg (by rw [ho]; decide), if_pos hw]
      rw [hw] at hiw
      have HIW := hid_l hiw
      clear hab hmem ho hw hiw
      go_wp2_with fail
      refine HAB.out.mono ?_
      rintro e w3 ⟨rfl, hw3⟩
      rw [hw3]
      clear hw3
      go_wp2_with fail
      refine HIW.out.mono ?_
      rintro e w4 ⟨rfl, hb4⟩
      have HS4 := hid_l (HSW.out.below hb4)
      have HB4 := hid_l (HBX.out.below hb4)
      obtain ⟨q0, q1, q2⟩ := HBX.out.below hb4
      simp only at q0 q1 q2
      have hQ4 : Q < w4.heap.size := World.block_lt_of_cell? w4 _ q0
      have hR4 := HS4.out.run.lt
      have k5 := HS4.out.run.c5
      obtain ⟨m5, hm5⟩ := HS4.out.run.beh
      have HM5 := hid_l hm5
      obtain ⟨ad5, c5, e5⟩ := tail_slice2 (HS4.out.run.rows dt (by omega))
      obtain ⟨n5, hn5⟩ : ∃ n, (r.behind (dt : Int)).length = n := ⟨_, rfl⟩
      rw [hn5] at e5
      have hn40 : n5 ≤ 40 := by
        have h2 := sum_le (f := r.behind) (show (1 : Int) ≤ (dt : Int) by omega) (show (dt : Int) ≤ 6 by omega)
        have h3 := HG.out.2.2.2.1
        omega
      have HV : Hid (Tail w4 0 82 3 (.slice ad5 n5 c5) n5 (flat (r.behind (dt : Int)))) := by show Tail _ _ _ _ _ _ _; have := HS4.out.run.rows dt (by omega); rw [e5, hn5] at this; exact this
      have hbv : (c.h (dt : Int)).getD (.slice none 0 0) = .slice ad5 n5 c5 := e5
      have hlk0 : (Instr.lookup 86 (.map (some c.B)) (.int .i64 (dt : Int)) false).run Tryd.prog w4.drew = .ok (.slice ad5 n5 c5) w4.drew := by have := (MapIs.drew hm5).look false Tryd.underlying86 (zero_ops _) hwf; rw [hbv] at this; exact this
      have hlk1 : ∀ ob : Obj, (Instr.lookup 86 (.map (some c.B)) (.int .i64 (dt : Int)) false).run Tryd.prog (w4.drew.alloc ob) = .ok (.slice ad5 n5 c5) (w4.drew.alloc ob) := fun ob => by
        have h2 : MapIs (w4.drew.alloc ob) c.B c.h m5 := hm5.turn (Turns.alloc (Turns.drew (Turns.refl (fun _ => False) w4)) ob) fun hf => hf
        have := h2.look false Tryd.underlying86 (zero_ops _) hwf
        rw [hbv] at this
        exact this
      have hlk2 : ∀ ob : Obj, (Instr.lookup 86 (.map (some c.B)) (.int .i64 (dt : Int)) false).run Tryd.prog (w4.alloc ob).drew = .ok (.slice ad5 n5 c5) (w4.alloc ob).drew := fun ob => by
        have h2 : MapIs (w4.alloc ob).drew c.B c.h m5 := hm5.turn (Turns.drew (Turns.alloc (Turns.refl (fun _ => False) w4) ob)) fun hf => hf
        have := h2.look false Tryd.underlying86 (zero_ops _) hwf
        rw [hbv] at this
        exact this
      have HPT : Hid (∀ v2 w2 (ob : Obj), Tail w2 0 82 3 v2 (n5 + 1) (flat (r.behind (dt : Int)) ++ flat [((dt : Int), a, i)]) → (w4.drew.alloc ob).grownBy w2 (Value.slice ad5 n5 c5).ownBlock → (∀ k, v2.ownBlock = some k → (Value.slice ad5 n5 c5).ownBlock = some k ∨ (w4.drew.alloc ob).heap.size ≤ k) → (w2.cell? ⟨R, 5, none⟩ = some (.map (some c.B)) ∧ w2.cell? ⟨Q, 0, none⟩ = some (.int .i64 (dt : Int)) ∧ w2.cell? ⟨Q, 1, none⟩ = some (.int .i64 a) ∧ w2.cell? ⟨Q, 2, none⟩ = some (.int .i64 i)) ∧ ∃ X, (X.cell? ⟨R, 5, none⟩ = some (.map (some c.B)) ∧ X.cell? ⟨Q, 0, none⟩ = some (.int .i64 (dt : Int)) ∧ X.cell? ⟨Q, 1, none⟩ = some (.int .i64 a) ∧ X.cell? ⟨Q, 2, none⟩ = some (.int .i64 i)) ∧ (Instr.mapUpdate 86 (.map (some c.B)) (.int .i64 (dt : Int)) v2).run Tryd.prog w2 = .ok () X ∧ LaneStep w4 X R way c { r with behind := setF r.behind (dt : Int) (r.behind (dt : Int) ++ [((dt : Int), a, i)]) } (wm r noP)) := fun v2 w2 ob h1 h2 h3 => by
        have htu : Turns (fun k => (c.bv (dt : Int)).ownBlock = some k) w4 w2 := by rw [e5]; exact turn_grown h2
        have hnR : ¬ (c.bv (dt : Int)).ownBlock = some R := fun e => HS4.out.run.apart 0 (dt + 6) R (by omega) (by omega) (by omega) rfl e
        have hnQ : ¬ (c.bv (dt : Int)).ownBlock = some Q := fun e => HQF.out ⟨dt + 6, by omega, e⟩
        have hnB : ¬ (c.bv (dt : Int)).ownBlock = some c.B := fun e => HS4.out.run.apart 5 (dt + 6) c.B (by omega) (by omega) (by omega) rfl e
        obtain ⟨X, hup, hmX, htX⟩ := (HM5.out.turn htu hnB).store (v := v2) Tryd.underlying86 (show (1 : Int) ≤ (dt : Int) by omega) (show (dt : Int) ≤ 6 by omega)
        have f0 := (htu.cell (p := ⟨R, 5, none⟩) HS4.out.run.lt hnR).trans HS4.out.run.c5
        have f1 := HB4.out.turn htu hnQ
        have hBR : ¬ R = c.B := fun e => HS4.out.run.apart 0 5 R (by omega) (by omega) (by omega) rfl e
        have hBQ : ¬ Q = c.B := fun e => HQF.out ⟨5, by omega, e⟩
        have f2 := f1.turn htX hBQ
        refine ⟨⟨f0, f1.1, f1.2.1, f1.2.2⟩, X, ⟨(htX.cell (p := ⟨R, 5, none⟩) (World.block_lt_of_cell? w2 _ f0) hBR).trans f0, f2.1, f2.2.1, f2.2.2⟩, hup, ?_⟩
        refine HS4.out.run.setBeh (w0 := w2) (x := some v2) (q := r.behind (dt : Int) ++ [((dt : Int), a, i)]) (d := dt) (by omega) htu hmX htX ?_ fun k hk => ?_
        · show Tail w2 0 _ 3 v2 _ _
          rw [List.length_append, hn5, flat_append]; exact h1
        · rcases apart_later h3 k hk with h4 | h4
          · exact .inl (by rw [e5]; exact h4)
          · exact .inr h4
      have HK5 : Hid (w4.drew.cell? ⟨R, 5, none⟩ = some (.map (some c.B)) ∧ w4.drew.cell? ⟨Q, 0, none⟩ = some (.int .i64 (dt : Int)) ∧ w4.drew.cell? ⟨Q, 1, none⟩ = some (.int .i64 a) ∧ w4.drew.cell? ⟨Q, 2, none⟩ = some (.int .i64 i)) := ⟨k5, q0, q1, q2⟩
      have HK6 : Hid (∀ ob : Obj, (w4.drew.alloc ob).cell? ⟨R, 5, none⟩ = some (.map (some c.B)) ∧ (w4.drew.alloc ob).cell? ⟨Q, 0, none⟩ = some (.int .i64 (dt : Int)) ∧ (w4.drew.alloc ob).cell? ⟨Q, 1, none⟩ = some (.int .i64 a) ∧ (w4.drew.alloc ob).cell? ⟨Q, 2, none⟩ = some (.int .i64 i)) := fun ob => by
        refine ⟨?_, ?_, ?_, ?_⟩
        · exact (World.cell?_alloc_lt w4.drew ob ⟨R, 5, none⟩ hR4).trans k5
        · exact (World.cell?_alloc_lt w4.drew ob ⟨Q, 0, none⟩ hQ4).trans q0
        · exact (World.cell?_alloc_lt w4.drew ob ⟨Q, 1, none⟩ hQ4).trans q1
        · exact (World.cell?_alloc_lt w4.drew ob ⟨Q, 2, none⟩ hQ4).trans q2
      clear hb4 p0 p1 p2 HBX HSW HIW HAB hPW hm5 e5 hn5 hbv
      go_wp2_with fail
      go_region_held3 (fun w' => w'.cell? ⟨R, 5, none⟩ = some (.map (some c.B)) ∧ w'.cell? ⟨Q, 0, none⟩ = some (.int .i64 (dt : Int)) ∧ w'.cell? ⟨Q, 1, none⟩ = some (.int .i64 a) ∧ w'.cell? ⟨Q, 2, none⟩ = some (.int .i64 i)) (first | exact gX | exact g0 | exact HK5.out | exact HK6.out _) (first | (refine step_append_tail rfl (.tmp 29) (.tmp 31) 50 rfl 0 82 i0 (.agg #[.int .i64 0, .int .i64 0, .int .i64 0]) 3 24 Tryd.underlying50 HI.out.1 HI.out.2.1 HI.out.2.2.1 HI.out.2.2.2 rfl (by decide) (.slice ad5 n5 c5) n5 (flat (r.behind (dt : Int))) (by simp [Act.eval]) (HV.out.same fun k hk => heap_alloc_lt2 w4.drew _ (HV.out.lt k hk).2) ⟨w4.heap.size, 0, none⟩ 1 1 (flat [((dt : Int), a, i)]) (by simp [Act.eval]) rfl (lock_new w4 ((dt : Int), a, i) _) (flat_one _) (by unfold maxLen; omega) (by omega) (Nat.zero_le _) ?_; intro v2 w2 hown2 hgr2 hap2; obtain ⟨g0, X, gX, hup, g2⟩ := HPT.out v2 w2 _ hown2 hgr2 hap2; clear hap2 hgr2; obtain ⟨ad6, c6, rfl⟩ : ∃ ad c, v2 = .slice ad (n5 + 1) c := tail_slice2 hown2; have HK2 := hid_l g2; clear g2 hown2))
      all_goals
        obtain ⟨c7, hs7⟩ := HS4.out.step HK2.out
        have HS7 := hid_l hs7
        clear hs7
        go_wp2_with fail
        go_end0
        exact ⟨rfl, by rw [HC.out]; exact HS7.out.done⟩
end Go.Proofs.YtjaeaanpbdmfgaeDoor
