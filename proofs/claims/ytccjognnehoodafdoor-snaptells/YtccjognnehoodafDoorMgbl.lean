/-
  PROVED HERE: package course: what a Read that is asked for comes to, by any rule that tells whose Write is seen.
  Conditions: what the rule answers is a premise; the lists are short.
  PROVED HERE: append on a row of one's own, of nothing or of another slice, and where the row lies then.
  Conditions: as the library's law of append has them.
-/
import Derived.Test.YtccjognnehoodafDoorMgbk
import Derived.Test.YtccjognnehoodafDoorMgbg
import Derived.Test.YtccjognnehoodafDoorMgae
import Derived.Laws.OwnMore
namespace Go.Proofs.YtccjognnehoodafDoor
open Go.RowKit

theorem seen_newQ {W : World} {Q : Nat} {x : Op3} (k0 : W.cell? ⟨Q, 0, none⟩ = some (.int .i64 x.1)) (k1 : W.cell? ⟨Q, 1, none⟩ = some (.int .i64 x.2.1)) (k2 : W.cell? ⟨Q, 2, none⟩ = some (.int .i64 x.2.2)) : ∀ j u, (flat [x])[j]? = some u → W.cell? ((⟨Q, 0, none⟩ : Addr).add j) = some u := by
  intro j u hj
  rw [Addr.add_lit]
  obtain ⟨a, b, c⟩ := x
  rcases j with _ | _ | _ | j
  · simp [flat] at hj; subst hj; simpa using k0
  · simp [flat] at hj; subst hj; simpa using k1
  · simp [flat] at hj; subst hj; simpa using k2
  · simp [flat] at hj
theorem seen_newR (w : World) (x : Op3) (t : TypeId) : ∀ j u, (flat [x])[j]? = some u → (w.alloc (.cells #[.int .i64 x.1, .int .i64 x.2.1, .int .i64 x.2.2] t)).cell? ((⟨w.heap.size, 0, none⟩ : Addr).add j) = some u :=
  seen_newQ (by simp) (by simp) (by simp)
theorem frozen_newQ {V w4 : World} {cs : Array Value} {T : TypeId} (h : Below (V.alloc (.cells cs T)).drew.heap.size (V.alloc (.cells cs T)).drew w4) (k : Nat) : w4.frozen? ⟨V.heap.size, k, none⟩ = false := by
  have h1 : w4.heap[V.heap.size]? = some (.cells cs T (0, 0)) := (h.block V.heap.size (by simp)).trans (World.alloc_heap_new V (.cells cs T))
  simp [World.frozen?, h1]
theorem set3_box {W : World} {Q : Nat} (a b c : Int) {x y z : Value} (z0 : W.cell? ⟨Q, 0, none⟩ = some x) (z1 : W.cell? ⟨Q, 1, none⟩ = some y) (z2 : W.cell? ⟨Q, 2, none⟩ = some z) : CrsBox (((W.setCell ⟨Q, 0, none⟩ (.int .i64 a)).setCell ⟨Q, 1, none⟩ (.int .i64 b)).setCell ⟨Q, 2, none⟩ (.int .i64 c)) Q a b c := by
  have n01 : (⟨Q, 0, none⟩ : Addr) ≠ ⟨Q, 1, none⟩ := by intro e; injection e with _ e _; omega
  have n02 : (⟨Q, 0, none⟩ : Addr) ≠ ⟨Q, 2, none⟩ := by intro e; injection e with _ e _; omega
  have n12 : (⟨Q, 1, none⟩ : Addr) ≠ ⟨Q, 2, none⟩ := by intro e; injection e with _ e _; omega
  refine ⟨?_, ?_, ?_⟩
  · rw [World.cell?_setCell_other _ _ _ _ n02.symm, World.cell?_setCell_other _ _ _ _ n01.symm]
    exact World.cell?_setCell_same' _ _ _ (by rw [z0]; rfl)
  · rw [World.cell?_setCell_other _ _ _ _ n12.symm]
    exact World.cell?_setCell_same' _ _ _ (by rw [World.cell?_setCell_other _ _ _ _ n01, z1]; rfl)
  · exact World.cell?_setCell_same' _ _ _ (by rw [World.cell?_setCell_other _ _ _ _ n12, World.cell?_setCell_other _ _ _ _ n02, z2]; rfl)
set_option maxHeartbeats 16000000 in
set_option maxRecDepth 100000 in
theorem come_read {NS : Nat} {seesF : Crs → Int → Int → Int} (hcall : RuleFn NS) (hS : SeesC NS seesF) {w0 w : World} {R : Nat} {F : Value} {q : Crs} {c : CLay} (h : CrsAt w0 w R (.func (.func NS) #[] #[]) F q c) (hq : CrsOk 999 q) {t : Int} (i : Int) (h1 : 1 ≤ t) (h6 : t ≤ 6) :
    Calls Tryd.prog 46 #[.pointer (some ⟨R, 0, none⟩), .agg #[.int .i64 t, .int .i64 1, .int .i64 i]] w fun e w' => e = .returned (.tuple #[]) ∧ CameTo w0 w' R (.func (.func NS) #[] #[]) F (readQ (begQ q t) (t, i, srcQ seesF (begQ q t) t i)) := by
  have HL := hid_q h
  have HQ := hid_q (hq.beg t)
  have HBG := hid_q (begin_crs (h.alloc (.cells #[.int .i64 t, .int .i64 1, .int .i64 i] 59)) h1 h6)
  have hbt : ((begQ q t).began t).isSome = true := by
    unfold begQ
    split
    · assumption
    · show (setF q.began t (some q.done.length) t).isSome = true
      rw [setF_same]; rfl
  obtain ⟨q1, hq1⟩ : ∃ q1, begQ q t = q1 := ⟨_, rfl⟩
  rw [hq1] at HBG HQ hbt ⊢
  have HSR : Hid (∀ W, CrsAt w0 W R (.func (.func NS) #[] #[]) F q1 c → Calls Tryd.prog 62 #[.pointer (some ⟨R, 0, none⟩), .agg #[.int .i64 t, .int .i64 1, .int .i64 i]] W fun e w' => e = .returned (.int .i64 (srcQ seesF q1 t i)) ∧ Below W.heap.size W w') := fun W hW => source_crs hcall hS hW HQ.out.more 1 i h1 h6 hbt
  obtain ⟨f, hf⟩ : ∃ f, srcQ seesF q1 t i = f := ⟨_, rfl⟩
  rw [hf] at HSR ⊢
  obtain ⟨i0, hi, hz0, hs0, hy0⟩ := info_parts infoSeenQ
  have HI : Hid (Tryd.prog.info? 63 = some i0 ∧ i0.zero = some (.agg #[.int .i64 0, .int .i64 0, .int .i64 0]) ∧ i0.size = 3 ∧ i0.bytes = 24) := ⟨hi, hz0, hs0, hy0⟩
  obtain ⟨dt, hdt⟩ : ∃ d : Nat, t = d := ⟨t.toNat, by omega⟩
  have hwf := wf_deal h1 h6
  have HT : Hid (1 ≤ t ∧ t ≤ 6 ∧ t = dt ∧ dt < 7) := ⟨h1, h6, hdt, by omega⟩
  clear h hq1 hi hz0 hs0 hy0 hq h1 h6 hdt hS hbt hf hcall
  go_enter Tryd.func46, Tryd.ntmps46
  go_wp2_with fail
  refine HBG.out.mono ?_
  rintro e V ⟨rfl, hc1, ht1⟩
  obtain ⟨hbx, hap⟩ := begun_crs HL.out ht1
  have HAP := hid_q hap
  obtain ⟨P, hP⟩ : ∃ P, P = w.heap.size := ⟨_, rfl⟩
  rw [← hP] at hbx HAP
  have HBX := hid_q hbx
  obtain ⟨p0, p1, p2⟩ := hbx
  have HY := hid_q hc1
  have hPV := HBX.out.lt
  rw [← hP]
  clear hc1 ht1 hap hP
  have HSV : Hid (∀ W, Below V.heap.size V W → Calls Tryd.prog 62 #[.pointer (some ⟨R, 0, none⟩), .agg #[.int .i64 t, .int .i64 1, .int .i64 i]] W fun e w' => e = .returned (.int .i64 f) ∧ Below W.heap.size W w') := fun W hW => HSR.out W (HY.out.below hW)
  have HKB : Hid (∀ W, Below V.heap.size V W → W.cell? ⟨P, 0, none⟩ = some (.int .i64 t) ∧ W.cell? ⟨P, 1, none⟩ = some (.int .i64 1) ∧ W.cell? ⟨P, 2, none⟩ = some (.int .i64 i)) := fun W hW => ⟨(HBX.out.below hW).p0, (HBX.out.below hW).p1, (HBX.out.below hW).p2⟩
  go_wp2_with fail
  go_region_held3 (fun w' => w'.cell? ⟨P, 0, none⟩ = some (.int .i64 t) ∧ w'.cell? ⟨P, 1, none⟩ = some (.int .i64 1) ∧ w'.cell? ⟨P, 2, none⟩ = some (.int .i64 i)) (first | exact HKB.out _ hb4 | exact HKB.out _ hb5 | exact HKB.out _ (hb4.alloc hb4.size _) | exact HKB.out _ (((hb5.setCell (Nat.le_refl _) _).setCell (Nat.le_refl _) _).setCell (Nat.le_refl _) _) | exact HKB.out _ (Below.refl _ V).drew | exact HKB.out _ ((Below.refl _ V).drew.alloc (Nat.le_refl _) _)) (first | (go_at_call 62; refine (HSV.out _ (Below.refl _ V).drew).mono ?_; rintro e w4 ⟨rfl, hb3⟩; have hb4 : Below V.heap.size V w4 := (Below.refl _ V).drew.trans hb3; clear hb3) | (go_at_call 62; refine (HSV.out _ ((Below.refl _ V).alloc (Nat.le_refl _) _).drew).mono ?_; rintro e w4 ⟨rfl, hb3⟩; have hb5 : Below V.heap.size V w4 := ((Below.refl _ V).alloc (Nat.le_refl _) _).drew.trans (hb3.mono (by simp)); have z0 : w4.cell? ⟨V.heap.size, 0, none⟩ = some (.int .i64 0) := (hb3.cell (p := ⟨V.heap.size, 0, none⟩) (by simp)).trans (by simp); have z1 : w4.cell? ⟨V.heap.size, 1, none⟩ = some (.int .i64 0) := (hb3.cell (p := ⟨V.heap.size, 1, none⟩) (by simp)).trans (by simp); have z2 : w4.cell? ⟨V.heap.size, 2, none⟩ = some (.int .i64 0) := (hb3.cell (p := ⟨V.heap.size, 2, none⟩) (by simp)).trans (by simp); have y0 : ∀ k, w4.frozen? ⟨V.heap.size, k, none⟩ = false := fun k => frozen_newQ hb3 k; clear hb3))
  · have hU : Below V.heap.size V (w4.alloc (.cells #[.int .i64 t, .int .i64 i, .int .i64 f] 63)) := hb4.alloc hb4.size _
    have hbq : CrsBox (w4.alloc (.cells #[.int .i64 t, .int .i64 i, .int .i64 f] 63)) w4.heap.size t i f := crsBox_new _ _ _ _ _
    have hQV := hb4.size
    obtain ⟨U, eU⟩ : ∃ U, U = w4.alloc (.cells #[.int .i64 t, .int .i64 i, .int .i64 f] 63) := ⟨_, rfl⟩
    obtain ⟨Q, eQ⟩ : ∃ Q, Q = w4.heap.size := ⟨_, rfl⟩
    rw [← eU] at hU hbq ⊢
    rw [← eQ] at hbq hQV ⊢
    clear eU eQ hb4
    have HQB := hid_q hbq
    obtain ⟨q0, q1c, q2⟩ := hbq
    have HU := hid_q (HY.out.below hU)
    have HAQ : Hid (∀ j k, j < 19 → cpart R c j k → k ≠ Q) := fun j k hj hk e => by have := HY.out.part_lt j k hj hk; omega
    have HBU := hid_q (HBX.out.below hU)
    obtain ⟨o0, o1, o2⟩ := HBX.out.below hU
    have hRV := HU.out.lt
    have hPV2 := HBU.out.lt
    have hQV2 := HQB.out.lt
    clear hU hQV p0 p1 p2 hPV HKB HSV
    obtain ⟨m5, hm5⟩ := HU.out.rd
    have k5 := HU.out.c4
    obtain ⟨ad5, c5, e5, -⟩ := own_slice3 (HU.out.rrow dt HT.out.2.2.2)
    rw [← HT.out.2.2.1] at e5
    obtain ⟨n5, hn5⟩ : ∃ n, (q1.read t).length = n := ⟨_, rfl⟩
    have hl5 := HQ.out.lenR t
    rw [hn5] at e5 hl5
    have hbv : (c.hr t).getD (.slice none 0 0) = .slice ad5 n5 c5 := e5
    have HV : Hid (U.ownsRow w0.heap.size 63 3 (.slice ad5 n5 c5) n5 (flat (q1.read t))) := by
      show World.ownsRow _ _ _ _ _ _ _
      have := HU.out.rrow dt HT.out.2.2.2
      rw [← HT.out.2.2.1, e5, hn5] at this
      exact this
    have hlk0 : (Instr.lookup 79 (.map (some c.D)) (.int .i64 t) false).run Tryd.prog U.drew = .ok (.slice ad5 n5 c5) U.drew := by have := (MapIs.drew hm5).look false Tryd.underlying79 (zero_seensQ _) hwf; rw [hbv] at this; exact this
    have hlk1 : ∀ ob : Obj, (Instr.lookup 79 (.map (some c.D)) (.int .i64 t) false).run Tryd.prog (U.drew.alloc ob) = .ok (.slice ad5 n5 c5) (U.drew.alloc ob) := fun ob => by
      have h2 : MapIs (U.drew.alloc ob) c.D c.hr m5 := hm5.turn (Turns.alloc (Turns.drew (Turns.refl (fun _ => False) U)) ob) fun hf => hf
      have := h2.look false Tryd.underlying79 (zero_seensQ _) hwf
      rw [hbv] at this
      exact this
    have hlk2 : ∀ ob : Obj, (Instr.lookup 79 (.map (some c.D)) (.int .i64 t) false).run Tryd.prog (U.alloc ob).drew = .ok (.slice ad5 n5 c5) (U.alloc ob).drew := fun ob => by
      have h2 : MapIs (U.alloc ob).drew c.D c.hr m5 := hm5.turn (Turns.drew (Turns.alloc (Turns.refl (fun _ => False) U) ob)) fun hf => hf
      have := h2.look false Tryd.underlying79 (zero_seensQ _) hwf
      rw [hbv] at this
      exact this
    have HSZ : Hid (w0.heap.size ≤ U.heap.size) := HU.out.old.size
    have HPT : Hid (∀ v2 w2 (ob : Obj), w2.ownsRow w0.heap.size 63 3 v2 (n5 + 1) (flat (q1.read t) ++ flat [(t, i, f)]) → (U.drew.alloc ob).grownBy w2 (Value.slice ad5 n5 c5).ownBlock → (∀ k, v2.ownBlock = some k → (Value.slice ad5 n5 c5).ownBlock = some k ∨ (U.drew.alloc ob).heap.size ≤ k) →
        (w2.cell? ⟨R, 4, none⟩ = some (.map (some c.D)) ∧ w2.cell? ⟨P, 0, none⟩ = some (.int .i64 t) ∧ w2.cell? ⟨Q, 0, none⟩ = some (.int .i64 t) ∧ w2.cell? ⟨Q, 1, none⟩ = some (.int .i64 i) ∧ w2.cell? ⟨Q, 2, none⟩ = some (.int .i64 f)) ∧ ∃ X, (X.cell? ⟨R, 4, none⟩ = some (.map (some c.D)) ∧ X.cell? ⟨P, 0, none⟩ = some (.int .i64 t) ∧ X.cell? ⟨Q, 0, none⟩ = some (.int .i64 t) ∧ X.cell? ⟨Q, 1, none⟩ = some (.int .i64 i) ∧ X.cell? ⟨Q, 2, none⟩ = some (.int .i64 f)) ∧ (Instr.mapUpdate 79 (.map (some c.D)) (.int .i64 t) v2).run Tryd.prog w2 = .ok () X ∧ CameTo w0 X R (.func (.func NS) #[] #[]) F (readQ q1 (t, i, f))) := fun v2 w2 ob h1 h2 h3 => by
      have htu : Turns (fun k => (c.rv t).ownBlock = some k) U w2 := by rw [e5]; exact turn_grown h2
      have hd7 := HT.out.2.2.2
      have hpw : ∀ k, (c.rv t).ownBlock = some k → cpart R c (dt + 5) k := fun k hk => (cpart_r R c hd7 k).2 (by rw [← HT.out.2.2.1]; exact hk)
      have hnR : ¬ (c.rv t).ownBlock = some R := fun e => HU.out.apart 0 (dt + 5) R (by omega) (by omega) (by omega) rfl (hpw R e)
      have hnP : ¬ (c.rv t).ownBlock = some P := fun e => HAP.out (dt + 5) P (by omega) (hpw P e) rfl
      have hnQ : ¬ (c.rv t).ownBlock = some Q := fun e => HAQ.out (dt + 5) Q (by omega) (hpw Q e) rfl
      have hnW : ¬ (c.rv t).ownBlock = some c.D := fun e => HU.out.apart 3 (dt + 5) c.D (by omega) (by omega) (by omega) rfl (hpw c.D e)
      obtain ⟨X, hup, hmX, htX⟩ := (hm5.turn htu hnW).store (v := v2) Tryd.underlying79 HT.out.1 HT.out.2.1
      have f0 := (htu.cell (p := ⟨R, 4, none⟩) HU.out.lt hnR).trans HU.out.c4
      have f1 := HBU.out.turn htu hnP
      have f3 := HQB.out.turn htu hnQ
      have hBR : ¬ R = c.D := fun e => HU.out.apart 0 3 R (by omega) (by omega) (by omega) rfl e
      have hBP : ¬ P = c.D := fun e => HAP.out 3 c.D (by omega) rfl e.symm
      have hBQ : ¬ Q = c.D := fun e => HAQ.out 3 c.D (by omega) rfl e.symm
      have f2 := f1.turn htX hBP
      have f4 := f3.turn htX hBQ
      refine ⟨⟨f0, f1.p0, f3.p0, f3.p1, f3.p2⟩, X, ⟨(htX.cell (p := ⟨R, 4, none⟩) (World.block_lt_of_cell? w2 _ f0) hBR).trans f0, f2.p0, f4.p0, f4.p1, f4.p2⟩, hup, ⟨{ c with hr := setF c.hr (dt : Int) (some v2) }, ?_⟩⟩
      have ht' := HT.out.2.2.1
      rw [ht'] at htu hmX h1 hn5 e5 ⊢
      refine HU.out.pushRead (w2 := w2) (x := ((dt : Int), i, f)) hd7 rfl htu hmX htX (by rw [hn5]; exact h1) fun k hk => ?_
      rcases apart_later h3 k hk with h4 | h4
      · exact .inl (by rw [e5]; exact h4)
      · exact .inr h4
    have HK5 : Hid (U.drew.cell? ⟨R, 4, none⟩ = some (.map (some c.D)) ∧ U.drew.cell? ⟨P, 0, none⟩ = some (.int .i64 t) ∧ U.drew.cell? ⟨Q, 0, none⟩ = some (.int .i64 t) ∧ U.drew.cell? ⟨Q, 1, none⟩ = some (.int .i64 i) ∧ U.drew.cell? ⟨Q, 2, none⟩ = some (.int .i64 f)) := ⟨k5, o0, q0, q1c, q2⟩
    have HK6 : Hid (∀ ob : Obj, (U.drew.alloc ob).cell? ⟨R, 4, none⟩ = some (.map (some c.D)) ∧ (U.drew.alloc ob).cell? ⟨P, 0, none⟩ = some (.int .i64 t) ∧ (U.drew.alloc ob).cell? ⟨Q, 0, none⟩ = some (.int .i64 t) ∧ (U.drew.alloc ob).cell? ⟨Q, 1, none⟩ = some (.int .i64 i) ∧ (U.drew.alloc ob).cell? ⟨Q, 2, none⟩ = some (.int .i64 f)) := fun ob =>
      ⟨(World.cell?_alloc_lt U.drew ob ⟨R, 4, none⟩ hRV).trans k5, (World.cell?_alloc_lt U.drew ob ⟨P, 0, none⟩ hPV2).trans o0, (World.cell?_alloc_lt U.drew ob ⟨Q, 0, none⟩ hQV2).trans q0, (World.cell?_alloc_lt U.drew ob ⟨Q, 1, none⟩ hQV2).trans q1c, (World.cell?_alloc_lt U.drew ob ⟨Q, 2, none⟩ hQV2).trans q2⟩
    clear hm5 e5 hn5 hbv
    go_wp2_with fail
    go_region_held3 (fun w' => w'.cell? ⟨R, 4, none⟩ = some (.map (some c.D)) ∧ w'.cell? ⟨P, 0, none⟩ = some (.int .i64 t) ∧ w'.cell? ⟨Q, 0, none⟩ = some (.int .i64 t) ∧ w'.cell? ⟨Q, 1, none⟩ = some (.int .i64 i) ∧ w'.cell? ⟨Q, 2, none⟩ = some (.int .i64 f)) (first | exact gX | exact g0 | exact HK5.out | exact HK6.out _) (first | (refine step_append_apart rfl (.tmp 33) (.tmp 35) 24 rfl w0.heap.size 63 i0 (.agg #[.int .i64 0, .int .i64 0, .int .i64 0]) 3 24 Tryd.underlying24 HI.out.1 HI.out.2.1 HI.out.2.2.1 HI.out.2.2.2 rfl (by decide) (.slice ad5 n5 c5) n5 (flat (q1.read t)) (by simp [Act.eval]) (HV.out.alloc _) ⟨U.heap.size, 0, none⟩ 1 1 (flat [(t, i, f)]) (by simp [Act.eval]) rfl (seen_newR U (t, i, f) _) (flat_one _) (by unfold maxLen; omega) (by omega) (by have := HSZ.out; simp; omega) ?_; intro v2 w2 hown2 hgr2 hap2; obtain ⟨g0, X, gX, hup, g2⟩ := HPT.out v2 w2 _ hown2 hgr2 hap2; clear hap2 hgr2; obtain ⟨ad6, c6, rfl, -⟩ := own_slice3 hown2; have HK2 := hid_q g2; clear g2 hown2))
    all_goals
      go_wp2_with fail
      go_end0
      exact ⟨rfl, HK2.out⟩
  · have hU : Below V.heap.size V (((w4.setCell ⟨V.heap.size, 0, none⟩ (.int .i64 t)).setCell ⟨V.heap.size, 1, none⟩ (.int .i64 i)).setCell ⟨V.heap.size, 2, none⟩ (.int .i64 f)) := ((hb5.setCell (Nat.le_refl _) _).setCell (Nat.le_refl _) _).setCell (Nat.le_refl _) _
    have hbq := set3_box t i f z0 z1 z2
    have hQV := Nat.le_refl V.heap.size
    obtain ⟨U, eU⟩ : ∃ U, U = ((w4.setCell ⟨V.heap.size, 0, none⟩ (.int .i64 t)).setCell ⟨V.heap.size, 1, none⟩ (.int .i64 i)).setCell ⟨V.heap.size, 2, none⟩ (.int .i64 f) := ⟨_, rfl⟩
    rw [← eU] at hU hbq ⊢
    obtain ⟨Q, eQ, hQV⟩ : ∃ Q, Q = V.heap.size ∧ V.heap.size ≤ Q := ⟨_, rfl, Nat.le_refl _⟩
    rw [← eQ] at hbq ⊢
    clear eU eQ hb5 z0 z1 z2 y0
    have HQB := hid_q hbq
    obtain ⟨q0, q1c, q2⟩ := hbq
    have HU := hid_q (HY.out.below hU)
    have HAQ : Hid (∀ j k, j < 19 → cpart R c j k → k ≠ Q) := fun j k hj hk e => by have := HY.out.part_lt j k hj hk; omega
    have HBU := hid_q (HBX.out.below hU)
    obtain ⟨o0, o1, o2⟩ := HBX.out.below hU
    have hRV := HU.out.lt
    have hPV2 := HBU.out.lt
    have hQV2 := HQB.out.lt
    clear hU hQV p0 p1 p2 hPV HKB HSV
    obtain ⟨m5, hm5⟩ := HU.out.rd
    have k5 := HU.out.c4
    obtain ⟨ad5, c5, e5, -⟩ := own_slice3 (HU.out.rrow dt HT.out.2.2.2)
    rw [← HT.out.2.2.1] at e5
    obtain ⟨n5, hn5⟩ : ∃ n, (q1.read t).length = n := ⟨_, rfl⟩
    have hl5 := HQ.out.lenR t
    rw [hn5] at e5 hl5
    have hbv : (c.hr t).getD (.slice none 0 0) = .slice ad5 n5 c5 := e5
    have HV : Hid (U.ownsRow w0.heap.size 63 3 (.slice ad5 n5 c5) n5 (flat (q1.read t))) := by
      show World.ownsRow _ _ _ _ _ _ _
      have := HU.out.rrow dt HT.out.2.2.2
      rw [← HT.out.2.2.1, e5, hn5] at this
      exact this
    have hlk0 : (Instr.lookup 79 (.map (some c.D)) (.int .i64 t) false).run Tryd.prog U.drew = .ok (.slice ad5 n5 c5) U.drew := by have := (MapIs.drew hm5).look false Tryd.underlying79 (zero_seensQ _) hwf; rw [hbv] at this; exact this
    have hlk1 : ∀ ob : Obj, (Instr.lookup 79 (.map (some c.D)) (.int .i64 t) false).run Tryd.prog (U.drew.alloc ob) = .ok (.slice ad5 n5 c5) (U.drew.alloc ob) := fun ob => by
      have h2 : MapIs (U.drew.alloc ob) c.D c.hr m5 := hm5.turn (Turns.alloc (Turns.drew (Turns.refl (fun _ => False) U)) ob) fun hf => hf
      have := h2.look false Tryd.underlying79 (zero_seensQ _) hwf
      rw [hbv] at this
      exact this
    have hlk2 : ∀ ob : Obj, (Instr.lookup 79 (.map (some c.D)) (.int .i64 t) false).run Tryd.prog (U.alloc ob).drew = .ok (.slice ad5 n5 c5) (U.alloc ob).drew := fun ob => by
      have h2 : MapIs (U.alloc ob).drew c.D c.hr m5 := hm5.turn (Turns.drew (Turns.alloc (Turns.refl (fun _ => False) U) ob)) fun hf => hf
      have := h2.look false Tryd.underlying79 (zero_seensQ _) hwf
      rw [hbv] at this
      exact this
    have HSZ : Hid (w0.heap.size ≤ U.heap.size) := HU.out.old.size
    have HPT : Hid (∀ v2 w2 (ob : Obj), w2.ownsRow w0.heap.size 63 3 v2 (n5 + 1) (flat (q1.read t) ++ flat [(t, i, f)]) → (U.drew.alloc ob).grownBy w2 (Value.slice ad5 n5 c5).ownBlock → (∀ k, v2.ownBlock = some k → (Value.slice ad5 n5 c5).ownBlock = some k ∨ (U.drew.alloc ob).heap.size ≤ k) →
        (w2.cell? ⟨R, 4, none⟩ = some (.map (some c.D)) ∧ w2.cell? ⟨P, 0, none⟩ = some (.int .i64 t) ∧ w2.cell? ⟨Q, 0, none⟩ = some (.int .i64 t) ∧ w2.cell? ⟨Q, 1, none⟩ = some (.int .i64 i) ∧ w2.cell? ⟨Q, 2, none⟩ = some (.int .i64 f)) ∧ ∃ X, (X.cell? ⟨R, 4, none⟩ = some (.map (some c.D)) ∧ X.cell? ⟨P, 0, none⟩ = some (.int .i64 t) ∧ X.cell? ⟨Q, 0, none⟩ = some (.int .i64 t) ∧ X.cell? ⟨Q, 1, none⟩ = some (.int .i64 i) ∧ X.cell? ⟨Q, 2, none⟩ = some (.int .i64 f)) ∧ (Instr.mapUpdate 79 (.map (some c.D)) (.int .i64 t) v2).run Tryd.prog w2 = .ok () X ∧ CameTo w0 X R (.func (.func NS) #[] #[]) F (readQ q1 (t, i, f))) := fun v2 w2 ob h1 h2 h3 => by
      have htu : Turns (fun k => (c.rv t).ownBlock = some k) U w2 := by rw [e5]; exact turn_grown h2
      have hd7 := HT.out.2.2.2
      have hpw : ∀ k, (c.rv t).ownBlock = some k → cpart R c (dt + 5) k := fun k hk => (cpart_r R c hd7 k).2 (by rw [← HT.out.2.2.1]; exact hk)
      have hnR : ¬ (c.rv t).ownBlock = some R := fun e => HU.out.apart 0 (dt + 5) R (by omega) (by omega) (by omega) rfl (hpw R e)
      have hnP : ¬ (c.rv t).ownBlock = some P := fun e => HAP.out (dt + 5) P (by omega) (hpw P e) rfl
      have hnQ : ¬ (c.rv t).ownBlock = some Q := fun e => HAQ.out (dt + 5) Q (by omega) (hpw Q e) rfl
      have hnW : ¬ (c.rv t).ownBlock = some c.D := fun e => HU.out.apart 3 (dt + 5) c.D (by omega) (by omega) (by omega) rfl (hpw c.D e)
      obtain ⟨X, hup, hmX, htX⟩ := (hm5.turn htu hnW).store (v := v2) Tryd.underlying79 HT.out.1 HT.out.2.1
      have f0 := (htu.cell (p := ⟨R, 4, none⟩) HU.out.lt hnR).trans HU.out.c4
      have f1 := HBU.out.turn htu hnP
      have f3 := HQB.out.turn htu hnQ
      have hBR : ¬ R = c.D := fun e => HU.out.apart 0 3 R (by omega) (by omega) (by omega) rfl e
      have hBP : ¬ P = c.D := fun e => HAP.out 3 c.D (by omega) rfl e.symm
      have hBQ : ¬ Q = c.D := fun e => HAQ.out 3 c.D (by omega) rfl e.symm
      have f2 := f1.turn htX hBP
      have f4 := f3.turn htX hBQ
      refine ⟨⟨f0, f1.p0, f3.p0, f3.p1, f3.p2⟩, X, ⟨(htX.cell (p := ⟨R, 4, none⟩) (World.block_lt_of_cell? w2 _ f0) hBR).trans f0, f2.p0, f4.p0, f4.p1, f4.p2⟩, hup, ⟨{ c with hr := setF c.hr (dt : Int) (some v2) }, ?_⟩⟩
      have ht' := HT.out.2.2.1
      rw [ht'] at htu hmX h1 hn5 e5 ⊢
      refine HU.out.pushRead (w2 := w2) (x := ((dt : Int), i, f)) hd7 rfl htu hmX htX (by rw [hn5]; exact h1) fun k hk => ?_
      rcases apart_later h3 k hk with h4 | h4
      · exact .inl (by rw [e5]; exact h4)
      · exact .inr h4
    have HK5 : Hid (U.drew.cell? ⟨R, 4, none⟩ = some (.map (some c.D)) ∧ U.drew.cell? ⟨P, 0, none⟩ = some (.int .i64 t) ∧ U.drew.cell? ⟨Q, 0, none⟩ = some (.int .i64 t) ∧ U.drew.cell? ⟨Q, 1, none⟩ = some (.int .i64 i) ∧ U.drew.cell? ⟨Q, 2, none⟩ = some (.int .i64 f)) := ⟨k5, o0, q0, q1c, q2⟩
    have HK6 : Hid (∀ ob : Obj, (U.drew.alloc ob).cell? ⟨R, 4, none⟩ = some (.map (some c.D)) ∧ (U.drew.alloc ob).cell? ⟨P, 0, none⟩ = some (.int .i64 t) ∧ (U.drew.alloc ob).cell? ⟨Q, 0, none⟩ = some (.int .i64 t) ∧ (U.drew.alloc ob).cell? ⟨Q, 1, none⟩ = some (.int .i64 i) ∧ (U.drew.alloc ob).cell? ⟨Q, 2, none⟩ = some (.int .i64 f)) := fun ob =>
      ⟨(World.cell?_alloc_lt U.drew ob ⟨R, 4, none⟩ hRV).trans k5, (World.cell?_alloc_lt U.drew ob ⟨P, 0, none⟩ hPV2).trans o0, (World.cell?_alloc_lt U.drew ob ⟨Q, 0, none⟩ hQV2).trans q0, (World.cell?_alloc_lt U.drew ob ⟨Q, 1, none⟩ hQV2).trans q1c, (World.cell?_alloc_lt U.drew ob ⟨Q, 2, none⟩ hQV2).trans q2⟩
    clear hm5 e5 hn5 hbv
    go_wp2_with fail
    go_region_held3 (fun w' => w'.cell? ⟨R, 4, none⟩ = some (.map (some c.D)) ∧ w'.cell? ⟨P, 0, none⟩ = some (.int .i64 t) ∧ w'.cell? ⟨Q, 0, none⟩ = some (.int .i64 t) ∧ w'.cell? ⟨Q, 1, none⟩ = some (.int .i64 i) ∧ w'.cell? ⟨Q, 2, none⟩ = some (.int .i64 f)) (first | exact gX | exact g0 | exact HK5.out | exact HK6.out _) (first | (refine step_append_apart rfl (.tmp 33) (.tmp 35) 24 rfl w0.heap.size 63 i0 (.agg #[.int .i64 0, .int .i64 0, .int .i64 0]) 3 24 Tryd.underlying24 HI.out.1 HI.out.2.1 HI.out.2.2.1 HI.out.2.2.2 rfl (by decide) (.slice ad5 n5 c5) n5 (flat (q1.read t)) (by simp [Act.eval]) (HV.out.alloc _) ⟨U.heap.size, 0, none⟩ 1 1 (flat [(t, i, f)]) (by simp [Act.eval]) rfl (seen_newR U (t, i, f) _) (flat_one _) (by unfold maxLen; omega) (by omega) (by have := HSZ.out; simp; omega) ?_; intro v2 w2 hown2 hgr2 hap2; obtain ⟨g0, X, gX, hup, g2⟩ := HPT.out v2 w2 _ hown2 hgr2 hap2; clear hap2 hgr2; obtain ⟨ad6, c6, rfl, -⟩ := own_slice3 hown2; have HK2 := hid_q g2; clear g2 hown2))
    all_goals
      go_wp2_with fail
      go_end0
      exact ⟨rfl, HK2.out⟩
end Go.Proofs.YtccjognnehoodafDoor

namespace Go.Proofs.YtccjognnehoodafDoor
open Go.RowKit

/-- A source: nothing, or cells at an address. -/
def SrcAt (w : World) (x : Value) (m size : Nat) (news : List Value) : Prop := (x = .slice none 0 0 ∧ m = 0 ∧ news = []) ∨ ∃ ad c, x = .slice (some ad) m c ∧ news.length = m * size ∧ ∀ j u, news[j]? = some u → w.cell? (ad.add j) = some u
theorem wp_append_src {P : Program} {o : Oper} {a : Act} (w : World) {K : Act → World → Prop} {Q : Exit → Act → World → Prop} (s x : Operand) (t : TypeId)
    (ho : o.op = .call { callee := .builtin .append, args := #[s, x], argTypes := #[t, t] })
    (base : Nat) (e : TypeId) (i : TypeInfo) (z : Value) (size bytes : Nat) (ht : P.underlying t = some (.slice e)) (hi : P.info? e = some i) (hz : i.zero = some z)
    (hsize : i.size = size) (hby : i.bytes = bytes) (hzs : z.cells.size = size) (hsz : 0 < size)
    (v : Value) (n : Nat) (xs : List Value) (hs : a.eval s = v) (hown : w.ownsRow base e size v n xs)
    (xv : Value) (m : Nat) (news : List Value) (hx : a.eval x = xv) (hnews : SrcAt w xv m size news) (h1 : ∀ u ∈ news, u.oneCell' = true)
    (h63 : n + m ≤ maxLen) (hbytes : (n + m) * bytes ≤ 140737488355328) (hbase : base ≤ w.heap.size)
    (h : ∀ v' w', w'.ownsRow base e size v' (n + m) (xs ++ news) → w.grownBy w' v.ownBlock → (∀ g, v'.ownBlock = some g → v.ownBlock = some g ∨ w.heap.size ≤ g) → K (a.put o.dst v') w') : o.wp P a w K Q := by
  rcases hnews with ⟨rfl, rfl, rfl⟩ | ⟨ad, c, rfl, hl, hn⟩
  · have hrun := run_append_owned_none (P := P) (w := w) base t o.type e i size ht hi v n xs hown
    unfold Oper.wp
    simp only [execOp, ho, resolve, invoke, builtin, Sem.run_bind, Sem.run_pure, Result.andThen_ok, List.map_toArray, List.map_cons, List.map_nil, hs, hx, hrun]
    refine h v w ?_ ⟨rfl, rfl, rfl, Nat.le_refl _, fun _ _ _ => rfl⟩ fun g hg => .inl hg
    rw [Nat.add_zero, List.append_nil]
    exact hown
  · exact wp_append_apart w s x t ho base e i z size bytes ht hi hz hsize hby hzs hsz v n xs hs hown ad m c news hx hl hn h1 h63 hbytes hbase h
/-- As one step of a region that draws. -/
theorem step_append_src {P : Program} {ops : Array Oper} {o : Oper} {a : Act} {w : World} {K : Act → World → Prop} {Q : Exit → Act → World → Prop} {E : Prop}
    (hgd : o.guard = none) (s x : Operand) (t : TypeId) (ho : o.op = .call { callee := .builtin .append, args := #[s, x], argTypes := #[t, t] })
    (base : Nat) (e : TypeId) (i : TypeInfo) (z : Value) (size bytes : Nat) (ht : P.underlying t = some (.slice e)) (hi : P.info? e = some i) (hz : i.zero = some z)
    (hsize : i.size = size) (hby : i.bytes = bytes) (hzs : z.cells.size = size) (hsz : 0 < size)
    (v : Value) (n : Nat) (xs : List Value) (hs : a.eval s = v) (hown : w.ownsRow base e size v n xs)
    (xv : Value) (m : Nat) (news : List Value) (hx : a.eval x = xv) (hnews : SrcAt w xv m size news) (h1 : ∀ u ∈ news, u.oneCell' = true)
    (h63 : n + m ≤ maxLen) (hbytes : (n + m) * bytes ≤ 140737488355328) (hbase : base ≤ w.heap.size)
    (h : ∀ v' w', w'.ownsRow base e size v' (n + m) (xs ++ news) → w.grownBy w' v.ownBlock → (∀ g, v'.ownBlock = some g → v.ownBlock = some g ∨ w.heap.size ≤ g) → K (a.put o.dst v') w') :
    if Region.wanted o (yielded ops a.tmps) = true then Oper.wp P o a w K Q else E := by
  have hw : Region.wanted o (yielded ops a.tmps) = true := by simp [Region.wanted, hgd]
  rw [if_pos hw]
  exact wp_append_src w s x t ho base e i z size bytes ht hi hz hsize hby hzs hsz v n xs hs hown xv m news hx hnews h1 h63 hbytes hbase h
theorem srcAt_ops {w : World} {v : Value} {l : List Op3} (h : IsOps w v l) : SrcAt w v l.length 3 (flat l) := by
  obtain ⟨ad, b, off, cap, rfl, ha, hn, hbB, hops⟩ := h
  cases ad with
  | none =>
    obtain ⟨h1, rfl⟩ := hn rfl
    have h2 : l = [] := List.length_eq_zero_iff.1 h1
    subst h2
    exact .inl ⟨rfl, rfl, rfl⟩
  | some a =>
    refine .inr ⟨a, cap, rfl, flat_length l, fun j u hj => ?_⟩
    have hlt : j < (flat l).length := (List.getElem?_eq_some_iff.1 hj).1
    rw [flat_length] at hlt
    have := ha (by omega)
    obtain rfl := Option.some.inj this
    rw [Addr.add_lit]
    exact hops.flat j u hj
/-- As an operation of a region in the text's order. -/
theorem wpList_append_src {P : Program} (w : World) {ops : Array Oper} {rest : List Oper} {o : Oper} {a : Act} {Q : Exit → Act → World → Prop} (hgd : o.guard = none) (s x : Operand) (t : TypeId)
    (ho : o.op = .call { callee := .builtin .append, args := #[s, x], argTypes := #[t, t] })
    (base : Nat) (e : TypeId) (i : TypeInfo) (z : Value) (size bytes : Nat) (ht : P.underlying t = some (.slice e)) (hi : P.info? e = some i) (hz : i.zero = some z)
    (hsize : i.size = size) (hby : i.bytes = bytes) (hzs : z.cells.size = size) (hsz : 0 < size)
    (v : Value) (n : Nat) (xs : List Value) (hs : a.eval s = v) (hown : w.ownsRow base e size v n xs)
    (xv : Value) (m : Nat) (news : List Value) (hx : a.eval x = xv) (hnews : SrcAt w xv m size news) (h1 : ∀ u ∈ news, u.oneCell' = true)
    (h63 : n + m ≤ maxLen) (hbytes : (n + m) * bytes ≤ 140737488355328) (hbase : base ≤ w.heap.size)
    (h : ∀ v' w', w'.ownsRow base e size v' (n + m) (xs ++ news) → w.grownBy w' v.ownBlock → (∀ g, v'.ownBlock = some g → v.ownBlock = some g ∨ w.heap.size ≤ g) → wpList P ops Q rest (a.put o.dst v') w') : wpList P ops Q (o :: rest) a w :=
  wpList_plain hgd fun _ hK => wp_append_src w s x t ho base e i z size bytes ht hi hz hsize hby hzs hsz v n xs hs hown xv m news hx hnews h1 h63 hbytes hbase fun v' w' h2 h3 h4 => hK _ _ (h v' w' h2 h3 h4)
theorem srcAt_own {w : World} {base e size n : Nat} {v : Value} {xs : List Value} (h : w.ownsRow base e size v n xs) : SrcAt w v n size xs := by
  have h' := h
  obtain ⟨hl, ⟨hv, hn⟩ | ⟨g, cap, cur, hv, _⟩⟩ := h'
  · refine .inl ⟨hv, hn, ?_⟩
    rw [hn] at hl
    exact List.eq_nil_of_length_eq_zero (by simpa using hl)
  · exact .inr ⟨⟨g, 0, none⟩, cap, hv, hl, fun j u hj => h.cells (g := g) (by rw [hv]; rfl) j u hj⟩
end Go.Proofs.YtccjognnehoodafDoor
