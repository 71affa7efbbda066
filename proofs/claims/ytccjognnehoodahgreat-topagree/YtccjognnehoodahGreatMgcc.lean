/-
  PROVED HERE: strict.lane's method come, over a run in memory: what an op that is asked for comes to.
  Conditions: the lists are short; nobody's turn is still to come.
  PROVED HERE: strict.lane's method inOrder, over a run in memory: the deals that were aborted, in order, in whichever order the map tells them.
  Conditions: no deal was aborted twice.
-/
import Derived.Test.YtccjognnehoodahGreatMgcb
import Derived.Test.YtccjognnehoodahGreatMgbw
namespace Go.Proofs.YtccjognnehoodahGreat
open Go.RowKit

theorem tail_slice2 {w : World} {base e size n : Nat} {v : Value} {xs : List Value} (h : Tail w base e size v n xs) : ∃ ad c, v = .slice ad n c := by
  obtain ⟨_, ⟨hv, hd⟩ | ⟨g, off, cap, cur, hv, _⟩⟩ := h
  · exact ⟨none, 0, by rw [hv, hd]⟩
  · exact ⟨_, cap, hv⟩
theorem heap_alloc_lt2 (w : World) (ob : Obj) {g : Nat} (h : g < w.heap.size) : (w.alloc ob).heap[g]? = w.heap[g]? := ((Below.refl w.heap.size w).alloc (Nat.le_refl _) ob).block g h
abbrev noP : Int → Option Op3 := fun _ => none
set_option maxHeartbeats 16000000 in
set_option maxRecDepth 100000 in
theorem come_lane {way : Int} (hway : way = 0 ∨ way = 1 ∨ way = 2) {R : Nat} {r : Runr} {c : Lay} {o : Op3} {w : World} (h : LaneAt w R way r (wm r noP) c) (hg : Good r) (hf : Fits r noP) (hp : pot r ≤ 46) (hs : sum6 r.behind < 41) (hop : isOpB o = true) :
    Calls Tryz.prog 39 #[.pointer (some ⟨R, 0, none⟩), lockV o] w fun e w' => e = .returned (.tuple #[]) ∧ LaneStep w w' R way c (comeR way r o) (wm (comeR way r o) noP) := by
  have HD := hid_l (do_lanes hway 41)
  obtain ⟨h1, h6⟩ := isOp_range hop
  obtain ⟨t, a, i⟩ := o
  simp only at h1 h6
  obtain ⟨dt, rfl⟩ : ∃ d : Nat, t = d := ⟨t.toNat, by omega⟩
  have HG : Hid (Good r ∧ Fits r noP ∧ pot r ≤ 46 ∧ sum6 r.behind < 41 ∧ isOpB ((dt : Int), a, i) = true) := ⟨hg, hf, hp, hs, hop⟩
  obtain ⟨i0, hi, hz0, hs0, hy0⟩ := info_parts infoOpL
  have HI : Hid (Tryz.prog.info? 51 = some i0 ∧ i0.zero = some (.agg #[.int .i64 0, .int .i64 0, .int .i64 0]) ∧ i0.size = 3 ∧ i0.bytes = 24) := ⟨hi, hz0, hs0, hy0⟩
  have hwf : Wf (dt : Int) := wf_deal h1 h6
  have hd1 : 1 ≤ dt := by omega
  have hd6 : dt ≤ 6 := by omega
  have HL := hid_l h
  clear hg hf hp hs hop hi hz0 hs0 hy0 h h1 h6
  go_enter Tryz.func39, Tryz.ntmps39
  go_upto_region 2 with (fail)
  obtain ⟨W, hW⟩ : ∃ W, W = w.alloc (.cells #[.int .i64 (dt : Int), .int .i64 a, .int .i64 i] 51) := ⟨_, rfl⟩
  rw [← hW]
  have hbx : LkBox W w.heap.size ((dt : Int), a, i) := by rw [hW]; exact lkBox_new _ _ _ _ _
  have hbW : Below w.heap.size w W := by rw [hW]; exact (Below.refl _ w).alloc (Nat.le_refl _) _
  obtain ⟨Q, hQ⟩ : ∃ Q, Q = w.heap.size := ⟨_, rfl⟩
  have HQF : Hid (¬ feet R c Q) := fun hk => by have := HL.out.feet_lt hk; omega
  have HSW := hid_l ((Since.start HL.out).below hbW)
  rw [← hQ] at hbx ⊢
  have HBX := hid_l hbx
  obtain ⟨p0, p1, p2⟩ := hbx
  simp only at p0 p1 p2
  have hab := isAborted_run HSW.out.run hwf
  have hPW : Q < W.heap.size := World.block_lt_of_cell? W _ p0
  clear hW hbW hQ
  cases ho : r.out (dt : Int) with
  | true =>
    have hmem : (dt : Int) ∈ r.vict := (HG.out.2.1.vict _).1 ho
    rw [decide_eq_true hmem] at hab
    have HAB := hid_l hab
    have HC : Hid (comeR way r ((dt : Int), a, i) = r) := by show _ = _; unfold comeR; rw [if_pos ho]
    clear hab hmem ho
    go_wp2_with fail
    refine HAB.out.mono ?_
    rintro e w3 ⟨rfl, hw3⟩
    rw [hw3]
    clear hw3
    go_wp2_with fail
    go_end0
    exact ⟨rfl, by rw [HC.out]; exact HSW.out.done⟩
  | false =>
    have hmem : ¬ (dt : Int) ∈ r.vict := fun hm => by rw [(HG.out.2.1.vict _).2 hm] at ho; cases ho
    rw [decide_eq_false hmem] at hab
    have HAB := hid_l hab
    have hiw := isWaiting_run HSW.out.run (wm_lock r noP) hwf
    rw [wm_some r rfl] at hiw
    cases hw : r.waits (dt : Int) with
    | false =>
      have HC : Hid (comeR way r ((dt : Int), a, i) = doN way 41 r ((dt : Int), a, i)) := by show _ = _; unfold comeR; rw [if_neg (by rw [ho]; decide), if_neg (by rw [hw]; decide)]
      rw [hw] at hiw
      have HIW := hid_l hiw
      have HOW := hid_l (And.intro ho hw)
      clear hab hmem ho hw hiw
      go_wp2_with fail
      refine HAB.out.mono ?_
      rintro e w3 ⟨rfl, hw3⟩
      rw [hw3]
      clear hw3
      go_wp2_with fail
      refine HIW.out.mono ?_
      rintro e w4 ⟨rfl, hb4⟩
      have HS4 := hid_l (HSW.out.below hb4)
      obtain ⟨q0, q1, q2⟩ := HBX.out.below hb4
      simp only at q0 q1 q2
      have HDO := hid_l (HD.out R r c noP ((dt : Int), a, i) w4 HS4.out.run HG.out.1 HG.out.2.1 HG.out.2.2.1 HG.out.2.2.2.1 HOW.out.1 HOW.out.2 HG.out.2.2.2.2)
      clear hb4 p0 p1 p2 HBX HSW HIW HAB hPW
      go_wp2_with fail
      refine HDO.out.mono ?_
      rintro e w5 ⟨rfl, hst5⟩
      obtain ⟨c5, hs5⟩ := HS4.out.step hst5
      have HS5 := hid_l hs5
      clear hst5 hs5 q0 q1 q2
      go_wp2_with fail
      go_end0
      exact ⟨rfl, by rw [HC.out]; exact HS5.out.done⟩
    | true =>
      have HC : Hid (comeR way r ((dt : Int), a, i) = { r with behind := setF r.behind (dt : Int) (r.behind (dt : Int) ++ [((dt : Int), a, i)]) }) := by show _ = _; unfold comeR; rw [if_neg (by rw [ho]; decide), if_pos hw]
      rw [hw] at hiw
      have HIW := hid_l hiw
      clear hab hmem ho hw hiw
      go_wp2_with fail
      refine HAB.out.mono ?_
      rintro e w3 ⟨rfl, hw3⟩
      rw [hw3]
      clear hw3
      go_wp2_with fail
      refine HIW.out.mono ?_
      rintro e w4 ⟨rfl, hb4⟩
      have HS4 := hid_l (HSW.out.below hb4)
      have HB4 := hid_l (HBX.out.below hb4)
      obtain ⟨q0, q1, q2⟩ := HBX.out.below hb4
      simp only at q0 q1 q2
      have hQ4 : Q < w4.heap.size := World.block_lt_of_cell? w4 _ q0
      have hR4 := HS4.out.run.lt
      have k5 := HS4.out.run.c5
      obtain ⟨m5, hm5⟩ := HS4.out.run.beh
      have HM5 := hid_l hm5
      obtain ⟨ad5, c5, e5⟩ := tail_slice2 (HS4.out.run.rows dt (by omega))
      obtain ⟨n5, hn5⟩ : ∃ n, (r.behind (dt : Int)).length = n := ⟨_, rfl⟩
      rw [hn5] at e5
      have hn40 : n5 ≤ 40 := by
        have h2 := sum_le (f := r.behind) (show (1 : Int) ≤ (dt : Int) by omega) (show (dt : Int) ≤ 6 by omega)
        have h3 := HG.out.2.2.2.1
        omega
      have HV : Hid (Tail w4 0 51 3 (.slice ad5 n5 c5) n5 (flat (r.behind (dt : Int)))) := by show Tail _ _ _ _ _ _ _; have := HS4.out.run.rows dt (by omega); rw [e5, hn5] at this; exact this
      have hbv : (c.h (dt : Int)).getD (.slice none 0 0) = .slice ad5 n5 c5 := e5
      have hlk0 : (Instr.lookup 89 (.map (some c.B)) (.int .i64 (dt : Int)) false).run Tryz.prog w4.drew = .ok (.slice ad5 n5 c5) w4.drew := by have := (MapIs.drew hm5).look false Tryz.underlying89 (zero_ops _) hwf; rw [hbv] at this; exact this
      have hlk1 : ∀ ob : Obj, (Instr.lookup 89 (.map (some c.B)) (.int .i64 (dt : Int)) false).run Tryz.prog (w4.drew.alloc ob) = .ok (.slice ad5 n5 c5) (w4.drew.alloc ob) := fun ob => by
        have h2 : MapIs (w4.drew.alloc ob) c.B c.h m5 := hm5.turn (Turns.alloc (Turns.drew (Turns.refl (fun _ => False) w4)) ob) fun hf => hf
        have := h2.look false Tryz.underlying89 (zero_ops _) hwf
        rw [hbv] at this
        exact this
      have hlk2 : ∀ ob : Obj, (Instr.lookup 89 (.map (some c.B)) (.int .i64 (dt : Int)) false).run Tryz.prog (w4.alloc ob).drew = .ok (.slice ad5 n5 c5) (w4.alloc ob).drew := fun ob => by
        have h2 : MapIs (w4.alloc ob).drew c.B c.h m5 := hm5.turn (Turns.drew (Turns.alloc (Turns.refl (fun _ => False) w4) ob)) fun hf => hf
        have := h2.look false Tryz.underlying89 (zero_ops _) hwf
        rw [hbv] at this
        exact this
      have HPT : Hid (∀ v2 w2 (ob : Obj), Tail w2 0 51 3 v2 (n5 + 1) (flat (r.behind (dt : Int)) ++ flat [((dt : Int), a, i)]) → (w4.drew.alloc ob).grownBy w2 (Value.slice ad5 n5 c5).ownBlock → (∀ k, v2.ownBlock = some k → (Value.slice ad5 n5 c5).ownBlock = some k ∨ (w4.drew.alloc ob).heap.size ≤ k) → (w2.cell? ⟨R, 5, none⟩ = some (.map (some c.B)) ∧ w2.cell? ⟨Q, 0, none⟩ = some (.int .i64 (dt : Int)) ∧ w2.cell? ⟨Q, 1, none⟩ = some (.int .i64 a) ∧ w2.cell? ⟨Q, 2, none⟩ = some (.int .i64 i)) ∧ ∃ X, (X.cell? ⟨R, 5, none⟩ = some (.map (some c.B)) ∧ X.cell? ⟨Q, 0, none⟩ = some (.int .i64 (dt : Int)) ∧ X.cell? ⟨Q, 1, none⟩ = some (.int .i64 a) ∧ X.cell? ⟨Q, 2, none⟩ = some (.int .i64 i)) ∧ (Instr.mapUpdate 89 (.map (some c.B)) (.int .i64 (dt : Int)) v2).run Tryz.prog w2 = .ok () X ∧ LaneStep w4 X R way c { r with behind := setF r.behind (dt : Int) (r.behind (dt : Int) ++ [((dt : Int), a, i)]) } (wm r noP)) := fun v2 w2 ob h1 h2 h3 => by
        have htu : Turns (fun k => (c.bv (dt : Int)).ownBlock = some k) w4 w2 := by rw [e5]; exact turn_grown h2
        have hnR : ¬ (c.bv (dt : Int)).ownBlock = some R := fun e => HS4.out.run.apart 0 (dt + 6) R (by omega) (by omega) (by omega) rfl e
        have hnQ : ¬ (c.bv (dt : Int)).ownBlock = some Q := fun e => HQF.out ⟨dt + 6, by omega, e⟩
        have hnB : ¬ (c.bv (dt : Int)).ownBlock = some c.B := fun e => HS4.out.run.apart 5 (dt + 6) c.B (by omega) (by omega) (by omega) rfl e
        obtain ⟨X, hup, hmX, htX⟩ := (HM5.out.turn htu hnB).store (v := v2) Tryz.underlying89 (show (1 : Int) ≤ (dt : Int) by omega) (show (dt : Int) ≤ 6 by omega)
        have f0 := (htu.cell (p := ⟨R, 5, none⟩) HS4.out.run.lt hnR).trans HS4.out.run.c5
        have f1 := HB4.out.turn htu hnQ
        have hBR : ¬ R = c.B := fun e => HS4.out.run.apart 0 5 R (by omega) (by omega) (by omega) rfl e
        have hBQ : ¬ Q = c.B := fun e => HQF.out ⟨5, by omega, e⟩
        have f2 := f1.turn htX hBQ
        refine ⟨⟨f0, f1.1, f1.2.1, f1.2.2⟩, X, ⟨(htX.cell (p := ⟨R, 5, none⟩) (World.block_lt_of_cell? w2 _ f0) hBR).trans f0, f2.1, f2.2.1, f2.2.2⟩, hup, ?_⟩
        refine HS4.out.run.setBeh (w0 := w2) (x := some v2) (q := r.behind (dt : Int) ++ [((dt : Int), a, i)]) (d := dt) (by omega) htu hmX htX ?_ fun k hk => ?_
        · show Tail w2 0 _ 3 v2 _ _
          rw [List.length_append, hn5, flat_append]; exact h1
        · rcases apart_later h3 k hk with h4 | h4
          · exact .inl (by rw [e5]; exact h4)
          · exact .inr h4
      have HK5 : Hid (w4.drew.cell? ⟨R, 5, none⟩ = some (.map (some c.B)) ∧ w4.drew.cell? ⟨Q, 0, none⟩ = some (.int .i64 (dt : Int)) ∧ w4.drew.cell? ⟨Q, 1, none⟩ = some (.int .i64 a) ∧ w4.drew.cell? ⟨Q, 2, none⟩ = some (.int .i64 i)) := ⟨k5, q0, q1, q2⟩
      have HK6 : Hid (∀ ob : Obj, (w4.drew.alloc ob).cell? ⟨R, 5, none⟩ = some (.map (some c.B)) ∧ (w4.drew.alloc ob).cell? ⟨Q, 0, none⟩ = some (.int .i64 (dt : Int)) ∧ (w4.drew.alloc ob).cell? ⟨Q, 1, none⟩ = some (.int .i64 a) ∧ (w4.drew.alloc ob).cell? ⟨Q, 2, none⟩ = some (.int .i64 i)) := fun ob => by
        refine ⟨?_, ?_, ?_, ?_⟩
        · exact (World.cell?_alloc_lt w4.drew ob ⟨R, 5, none⟩ hR4).trans k5
        · exact (World.cell?_alloc_lt w4.drew ob ⟨Q, 0, none⟩ hQ4).trans q0
        · exact (World.cell?_alloc_lt w4.drew ob ⟨Q, 1, none⟩ hQ4).trans q1
        · exact (World.cell?_alloc_lt w4.drew ob ⟨Q, 2, none⟩ hQ4).trans q2
      clear hb4 p0 p1 p2 HBX HSW HIW HAB hPW hm5 e5 hn5 hbv
      go_wp2_with fail
      go_region_held3 (fun w' => w'.cell? ⟨R, 5, none⟩ = some (.map (some c.B)) ∧ w'.cell? ⟨Q, 0, none⟩ = some (.int .i64 (dt : Int)) ∧ w'.cell? ⟨Q, 1, none⟩ = some (.int .i64 a) ∧ w'.cell? ⟨Q, 2, none⟩ = some (.int .i64 i)) (first | exact gX | exact g0 | exact HK5.out | exact HK6.out _) (first | (refine step_append_tail rfl (.tmp 29) (.tmp 31) 22 rfl 0 51 i0 (.agg #[.int .i64 0, .int .i64 0, .int .i64 0]) 3 24 Tryz.underlying22 HI.out.1 HI.out.2.1 HI.out.2.2.1 HI.out.2.2.2 rfl (by decide) (.slice ad5 n5 c5) n5 (flat (r.behind (dt : Int))) (by simp [Act.eval]) (HV.out.same fun k hk => heap_alloc_lt2 w4.drew _ (HV.out.lt k hk).2) ⟨w4.heap.size, 0, none⟩ 1 1 (flat [((dt : Int), a, i)]) (by simp [Act.eval]) rfl (lock_new w4 ((dt : Int), a, i) _) (flat_one _) (by unfold maxLen; omega) (by omega) (Nat.zero_le _) ?_; intro v2 w2 hown2 hgr2 hap2; obtain ⟨g0, X, gX, hup, g2⟩ := HPT.out v2 w2 _ hown2 hgr2 hap2; clear hap2 hgr2; obtain ⟨ad6, c6, rfl⟩ : ∃ ad c, v2 = .slice ad (n5 + 1) c := tail_slice2 hown2; have HK2 := hid_l g2; clear g2 hown2))
      all_goals
        obtain ⟨c7, hs7⟩ := HS4.out.step HK2.out
        have HS7 := hid_l hs7
        clear hs7
        go_wp2_with fail
        go_end0
        exact ⟨rfl, by rw [HC.out]; exact HS7.out.done⟩
end Go.Proofs.YtccjognnehoodahGreat

namespace Go.Proofs.YtccjognnehoodahGreat
open Go.RowKit
open Go.Maps (Keyed)

set_option maxHeartbeats 8000000 in
set_option maxRecDepth 100000 in
theorem inOrder_run {R : Nat} {way : Int} {r : Runr} {g : Int → Option Value} {c : Lay} {P : Int → Option Op3} {w : World} (h : LaneAt w R way r g c) (hf : Fits r P) (hl : r.vict.length ≤ 6) :
    Calls Tryz.prog 40 #[.pointer (some ⟨R, 0, none⟩)] w fun e w' => ∃ ad n q, e = .returned (.slice ad n q) ∧ IsInts w' (.slice ad n q) r.vict ∧ Below w.heap.size w w' := by
  obtain ⟨vc, hvc⟩ : ∃ vc, r.vict = vc := ⟨_, rfl⟩
  have HN : Hid (vc.Pairwise (· ≠ ·)) := by show List.Pairwise _ _; rw [← hvc]; exact hf.nodup
  have c3 := h.c3
  have HL := hid_l h
  have HM : Hid (∀ W, Below w.heap.size w W → MapIs W c.A (victF vc) vc.length) := fun W hW => by have := (h.below hW).outs; rw [hvc] at this; exact this
  have hRl := h.lt
  rw [hvc] at hl ⊢
  obtain ⟨i0, hi, hz0, hs0, hy0⟩ := info_parts infoInt
  have HI : Hid (Tryz.prog.info? 3 = some i0 ∧ i0.zero = some (.int .i64 0) ∧ i0.size = 1 ∧ i0.bytes = 8) := ⟨hi, hz0, hs0, hy0⟩
  obtain ⟨m, hm⟩ : ∃ m, vc.length = m := ⟨_, rfl⟩
  have HMM := hid_l hm
  rw [hm] at hl
  have hm0 : (0 : Int) ≤ (m : Int) := by omega
  clear hi hz0 hs0 hy0 hf hvc h hm
  go_enter Tryz.func40, Tryz.ntmps40
  go_upto_region 2 with (first | (at_len; refine wp_len _ rfl (.tmp 9) 81 rfl 3 Tryz.underlying81 c.A m (victF vc) rfl (HMM.out ▸ HM.out _ (Below.refl _ _)) ?_) | (at_make; refine wpList_make_full _ rfl (.tmp 10) (.tmp 10) 28 rfl w.heap.size 3 i0 (.int .i64 0) 1 Tryz.underlying28 HI.out.1 HI.out.2.1 HI.out.2.2.1 .i64 .i64 (m : Int) (m : Int) m rfl rfl rfl rfl (by rw [HI.out.2.2.2]; omega) (by unfold maxLen; omega) (Nat.le_refl _) ?_; intro w1 hown1 hgr1))
  have HNU : Hid (NumsAt w1 w.heap.size m fun _ => 0) := nums_start hown1 (made_zero m)
  have HB1 : Hid (Below w.heap.size w w1) := ⟨hgr1.os, hgr1.tape, hgr1.output, hgr1.size, fun k hk => hgr1.block k hk (by simp)⟩
  have hS1 : w.heap.size < w1.heap.size := (hown1.lt w.heap.size rfl).2
  obtain ⟨D, hD1, hD2, hD3, hD4, -⟩ := HM.out w1 HB1.out
  have HD1 := hid_l hD1
  have HD3 := hid_l (And.intro hD3 hD4)
  obtain ⟨S, hS⟩ : ∃ S, S = w.heap.size := ⟨_, rfl⟩
  have k3 : w1.cell? ⟨R, 3, none⟩ = some (.map (some c.A)) := (HL.out.below HB1.out).c3
  have hAS : c.A ≠ S := by have := (HM.out w (Below.refl _ _)).lt; omega
  have hRS : R ≠ S := by omega
  have HSE := hid_l hS
  rw [← hS] at HNU hS1 ⊢
  clear hown1 hgr1 hD1 hD3 hD4 hS c3
  go_wp2_with (at_range; refine wpList_range_own _ rfl (.tmp 15) 81 rfl 3 3 KI Tryz.underlying81 heldElem c.A vc.length D rfl HD1.out ?_; intro w2 hrg2 hg2 hs2)
  have ht2 : Turns (fun _ => False) w1 w2 := (Turns.refl _ w1).grown hg2 fun k hk => by cases hk
  have HL2 : Hid (Laid vc (Maps.has D) fun _ => 0) := fun j hj hl => by
    exfalso
    have hmem : vc.getD j 0 ∈ vc := by simp [List.getD, hj]
    have hsm : (victF vc (vc.getD j 0)).isSome = true := by rw [victF_some, decide_eq_true hmem]
    have hr := HM.out w (Below.refl _ _)
    obtain ⟨_, _, _, _, _, h5⟩ := hr
    obtain ⟨a1, a6⟩ := h5 _ hsm
    rw [HD3.out.1 _ (wf_deal a1 a6), hsm] at hl
    cases hl
  have HST : Hid (∃ (left : Lit → Bool) (cnt : Nat) (vs : Nat → Int), w2.ranges Tryz.prog 3 heldElem c.A w1.heap.size vc.length D left cnt ∧ NumsAt w2 S m vs ∧ Laid vc left vs ∧ Below w.heap.size w w2 ∧ S < w2.heap.size) :=
    ⟨_, _, _, hrg2, HNU.out.turn ht2 hS1 (fun hf => hf), HL2.out, HB1.out.trans ((ht2.below (Nat.le_refl _) fun _ _ hf => hf).mono HB1.out.size), Nat.lt_of_lt_of_le hS1 ht2.size⟩
  have hSI : S ≠ w1.heap.size := by omega
  have hSI2 : S < w1.heap.size := by omega
  obtain ⟨I, hI⟩ : ∃ I, I = w1.heap.size := ⟨_, rfl⟩
  rw [← hI] at HST hSI hSI2 ⊢
  clear hrg2 hg2 hs2 ht2 HL2 k3 hI
  go_frame
  go_loopw [4] (fun _ wr => ∃ (left : Lit → Bool) (cnt : Nat) (vs : Nat → Int), wr.ranges Tryz.prog 3 heldElem c.A I vc.length D left cnt ∧ NumsAt wr S m vs ∧ Laid vc left vs ∧ Below w.heap.size w wr ∧ S < wr.heap.size) (fun _ wr => wr.rangeLeft c.A I)
  case atStart => exact HST.out
  case round =>
    obtain ⟨left, cnt, vs, hrg, hnu, hlaid, hbel, hSr⟩ := hrel
    have HRG := hid_l hrg
    have HNR := hid_l hnu
    have HLA := hid_l hlaid
    have HBE := hid_l hbel
    clear hrg hnu hlaid hbel HST
    go_wp2_with (at_next; refine wp_next_outs _ rfl (.tmp 16) rfl c.A I vc.length D left cnt vc rfl HRG.out HD3.out.1 HD3.out.2 ?_ ?_)
    · intro hc0 hl0
      have HEN : Hid (IsInts wr (.slice (some ⟨S, 0, none⟩) m m) vc) := by
        have h1 := HNR.out
        rw [← HMM.out] at h1 ⊢
        exact h1.ints hSr fun j hj => HLA.out j hj (hl0 _)
      clear hc0 hl0
      go_wp2_with fail
      go_ret
      exact ⟨_, _, _, rfl, HEN.out, HBE.out⟩
    · intro x k w3 cnt3 hxk hrg3 hlt3 hg3 hs3 hen3
      have hkm : k < m := by rw [← HMM.out]; exact (List.getElem?_eq_some_iff.1 hxk).1
      have ht3 : Turns (fun j => j = I) wr w3 := (Turns.refl _ wr).grown hg3 fun j hj => .inl (Option.some.inj hj).symm
      have hn3 := HNR.out.turn ht3 hSr hSI
      obtain ⟨y0, y1⟩ := hn3 k hkm
      have HN3 := hid_l hn3
      have HR3 := hid_l hrg3
      have HL3 := hid_l (HLA.out.step HN.out hxk)
      have HB3 : Hid (Below w.heap.size w w3) := by
        have h1 : ¬ I < w.heap.size := by have := HSE.out; omega
        exact HBE.out.trans (ht3.below HBE.out.size fun j hj e => h1 (e ▸ hj))
      have hS3 : S < w3.heap.size := Nat.lt_of_lt_of_le hSr ht3.size
      have hk1 : (k : Int) < (m : Int) := by omega
      have hk0 : (0 : Int) ≤ (k : Int) := by omega
      have hkn : ¬ (k : Int) < 0 := by omega
      have HLE := hid_l HRG.out.left_eq
      clear hxk hrg3 ht3 hn3 hg3
      go_wp2_with fail
      go_roundw
      case rel =>
        have hkeep : (w3.setCell ⟨S, k, none⟩ (.int .i64 x)).ranges Tryz.prog 3 heldElem c.A I vc.length D (fun z => left z && !z.sameKey (Lit.int .i64 x)) cnt3 := HR3.out.kept (row := some S) ⟨rfl, rfl, rfl, by simp, fun i hi hne => by rw [Below.heap_setCell _ _ _ _ (fun e => hne (by rw [e]))]⟩ (fun e => hAS (Option.some.inj e)) (fun e => hSI (Option.some.inj e).symm)
        exact ⟨_, cnt3, _, hkeep, HN3.out.set hkm x, HL3.out, HB3.out.setCell (by rw [HSE.out]; exact Nat.le_refl _) _, by simpa using hS3⟩
      case measure =>
        have hkeep : (w3.setCell ⟨S, k, none⟩ (.int .i64 x)).ranges Tryz.prog 3 heldElem c.A I vc.length D (fun z => left z && !z.sameKey (Lit.int .i64 x)) cnt3 := HR3.out.kept (row := some S) ⟨rfl, rfl, rfl, by simp, fun i hi hne => by rw [Below.heap_setCell _ _ _ _ (fun e => hne (by rw [e]))]⟩ (fun e => hAS (Option.some.inj e)) (fun e => hSI (Option.some.inj e).symm)
        rw [hkeep.left_eq, HLE.out]
        exact hlt3
end Go.Proofs.YtccjognnehoodahGreat
