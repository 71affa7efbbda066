/-
  PROVED HERE: package course: what a Write that is asked for comes to.
  Conditions: the lists are short.
-/
import Derived.Test.YtccjognnehoodagCrsCome
namespace Go.Proofs.Ytccjognnehoodag
open Go.RowKit

set_option maxHeartbeats 16000000 in
set_option maxRecDepth 100000 in
theorem come_write {w0 w : World} {R : Nat} {S F : Value} {q : Crs} {c : CLay} (h : CrsAt w0 w R S F q c) (hq : CrsOk 999 q) {t : Int} (i : Int) (h1 : 1 ≤ t) (h6 : t ≤ 6) :
    Calls Try.prog 54 #[.pointer (some ⟨R, 0, none⟩), .agg #[.int .i64 t, .int .i64 2, .int .i64 i]] w fun e w' => e = .returned (.tuple #[]) ∧ CameTo w0 w' R S F (writeQ (begQ q t) t i) := by
  have HL := hid_q h
  have HQ := hid_q (hq.beg t)
  have HBG := hid_q (begin_crs (h.alloc (.cells #[.int .i64 t, .int .i64 2, .int .i64 i] 24)) h1 h6)
  obtain ⟨q1, hq1⟩ : ∃ q1, begQ q t = q1 := ⟨_, rfl⟩
  rw [hq1] at HBG HQ ⊢
  obtain ⟨i0, hi, hz0, hs0, hy0⟩ := info_parts infoInt
  have HI : Hid (Try.prog.info? 3 = some i0 ∧ i0.zero = some (.int .i64 0) ∧ i0.size = 1 ∧ i0.bytes = 8) := ⟨hi, hz0, hs0, hy0⟩
  obtain ⟨dt, hdt⟩ : ∃ d : Nat, t = d := ⟨t.toNat, by omega⟩
  have hwf := wf_deal h1 h6
  have HT : Hid (1 ≤ t ∧ t ≤ 6 ∧ t = dt ∧ dt < 7) := ⟨h1, h6, hdt, by omega⟩
  clear h hq1 hi hz0 hs0 hy0 hq h1 h6 hdt
  go_enter Try.func54, Try.ntmps54
  go_wp2_with fail
  refine HBG.out.mono ?_
  rintro e V ⟨rfl, hc1, ht1⟩
  obtain ⟨hbx, hap⟩ := begun_crs HL.out ht1
  have HAP := hid_q hap
  obtain ⟨P, hP⟩ : ∃ P, P = w.heap.size := ⟨_, rfl⟩
  rw [← hP] at hbx HAP
  have HBX := hid_q hbx
  obtain ⟨p0, p1, p2⟩ := hbx
  have HY := hid_q hc1
  have hRV := hc1.lt
  have hPV := HBX.out.lt
  rw [← hP]
  obtain ⟨m5, hm5⟩ := hc1.wr
  clear hc1 ht1 hap hP
  have k5 := HY.out.c5
  obtain ⟨ad5, c5, e5, -⟩ := own_slice3 (HY.out.wrow dt HT.out.2.2.2)
  rw [← HT.out.2.2.1] at e5
  obtain ⟨n5, hn5⟩ : ∃ n, (q1.wrote t).length = n := ⟨_, rfl⟩
  have hl5 := HQ.out.lenW t
  rw [hn5] at e5 hl5
  have hbv : (c.hw t).getD (.slice none 0 0) = .slice ad5 n5 c5 := e5
  have HV : Hid (V.ownsRow w0.heap.size 3 1 (.slice ad5 n5 c5) n5 ((q1.wrote t).map (Value.int .i64))) := by
    show World.ownsRow _ _ _ _ _ _ _
    have := HY.out.wrow dt HT.out.2.2.2
    rw [← HT.out.2.2.1, e5, hn5] at this
    exact this
  have hlk0 : (Instr.lookup 73 (.map (some c.W)) (.int .i64 t) false).run Try.prog V.drew = .ok (.slice ad5 n5 c5) V.drew := by have := (MapIs.drew hm5).look false Try.underlying73 (zero_intsQ _) hwf; rw [hbv] at this; exact this
  have hlk1 : ∀ ob : Obj, (Instr.lookup 73 (.map (some c.W)) (.int .i64 t) false).run Try.prog (V.drew.alloc ob) = .ok (.slice ad5 n5 c5) (V.drew.alloc ob) := fun ob => by
    have h2 : MapIs (V.drew.alloc ob) c.W c.hw m5 := hm5.turn (Turns.alloc (Turns.drew (Turns.refl (fun _ => False) V)) ob) fun hf => hf
    have := h2.look false Try.underlying73 (zero_intsQ _) hwf
    rw [hbv] at this
    exact this
  have hlk2 : ∀ ob : Obj, (Instr.lookup 73 (.map (some c.W)) (.int .i64 t) false).run Try.prog (V.alloc ob).drew = .ok (.slice ad5 n5 c5) (V.alloc ob).drew := fun ob => by
    have h2 : MapIs (V.alloc ob).drew c.W c.hw m5 := hm5.turn (Turns.drew (Turns.alloc (Turns.refl (fun _ => False) V) ob)) fun hf => hf
    have := h2.look false Try.underlying73 (zero_intsQ _) hwf
    rw [hbv] at this
    exact this
  have HSZ : Hid (w0.heap.size ≤ V.heap.size) := HY.out.old.size
  have HPT : Hid (∀ v2 w2 (ob : Obj), w2.ownsRow w0.heap.size 3 1 v2 (n5 + 1) ((q1.wrote t).map (Value.int .i64) ++ [.int .i64 i]) → (V.drew.alloc ob).grownBy w2 (Value.slice ad5 n5 c5).ownBlock → (∀ k, v2.ownBlock = some k → (Value.slice ad5 n5 c5).ownBlock = some k ∨ (V.drew.alloc ob).heap.size ≤ k) →
      (w2.cell? ⟨R, 5, none⟩ = some (.map (some c.W)) ∧ w2.cell? ⟨P, 0, none⟩ = some (.int .i64 t) ∧ w2.cell? ⟨P, 2, none⟩ = some (.int .i64 i)) ∧ ∃ X, (X.cell? ⟨R, 5, none⟩ = some (.map (some c.W)) ∧ X.cell? ⟨P, 0, none⟩ = some (.int .i64 t) ∧ X.cell? ⟨P, 2, none⟩ = some (.int .i64 i)) ∧ (Instr.mapUpdate 73 (.map (some c.W)) (.int .i64 t) v2).run Try.prog w2 = .ok () X ∧ CameTo w0 X R S F (writeQ q1 t i)) := fun v2 w2 ob h1 h2 h3 => by
    have htu : Turns (fun k => (c.wv t).ownBlock = some k) V w2 := by rw [e5]; exact turn_grown h2
    have hpw : ∀ k, (c.wv t).ownBlock = some k → cpart R c (dt + 12) k := fun k hk => (cpart_w R c dt k).2 (by rw [← HT.out.2.2.1]; exact hk)
    have hd7 := HT.out.2.2.2
    have hnR : ¬ (c.wv t).ownBlock = some R := fun e => HY.out.apart 0 (dt + 12) R (by omega) (by omega) (by omega) rfl (hpw R e)
    have hnP : ¬ (c.wv t).ownBlock = some P := fun e => HAP.out (dt + 12) P (by omega) (hpw P e) rfl
    have hnW : ¬ (c.wv t).ownBlock = some c.W := fun e => HY.out.apart 4 (dt + 12) c.W (by omega) (by omega) (by omega) rfl (hpw c.W e)
    obtain ⟨X, hup, hmX, htX⟩ := (hm5.turn htu hnW).store (v := v2) Try.underlying73 HT.out.1 HT.out.2.1
    have f0 := (htu.cell (p := ⟨R, 5, none⟩) HY.out.lt hnR).trans HY.out.c5
    have f1 := HBX.out.turn htu hnP
    have hBR : ¬ R = c.W := fun e => HY.out.apart 0 4 R (by omega) (by omega) (by omega) rfl e
    have hBP : ¬ P = c.W := fun e => HAP.out 4 c.W (by omega) rfl e.symm
    have f2 := f1.turn htX hBP
    refine ⟨⟨f0, f1.p0, f1.p2⟩, X, ⟨(htX.cell (p := ⟨R, 5, none⟩) (World.block_lt_of_cell? w2 _ f0) hBR).trans f0, f2.p0, f2.p2⟩, hup, ⟨{ c with hw := setF c.hw (dt : Int) (some v2) }, ?_⟩⟩
    have ht' := HT.out.2.2.1
    rw [ht'] at htu hmX h1 hn5 e5 ⊢
    refine HY.out.pushWrote (w2 := w2) hd7 htu hmX htX (by rw [hn5]; exact h1) fun k hk => ?_
    rcases apart_later h3 k hk with h4 | h4
    · exact .inl (by rw [e5]; exact h4)
    · exact .inr h4
  have HK5 : Hid (V.drew.cell? ⟨R, 5, none⟩ = some (.map (some c.W)) ∧ V.drew.cell? ⟨P, 0, none⟩ = some (.int .i64 t) ∧ V.drew.cell? ⟨P, 2, none⟩ = some (.int .i64 i)) := ⟨k5, p0, p2⟩
  have HK6 : Hid (∀ ob : Obj, (V.drew.alloc ob).cell? ⟨R, 5, none⟩ = some (.map (some c.W)) ∧ (V.drew.alloc ob).cell? ⟨P, 0, none⟩ = some (.int .i64 t) ∧ (V.drew.alloc ob).cell? ⟨P, 2, none⟩ = some (.int .i64 i)) := fun ob =>
    ⟨(World.cell?_alloc_lt V.drew ob ⟨R, 5, none⟩ hRV).trans k5, (World.cell?_alloc_lt V.drew ob ⟨P, 0, none⟩ hPV).trans p0, (World.cell?_alloc_lt V.drew ob ⟨P, 2, none⟩ hPV).trans p2⟩
  clear hm5 e5 hn5 hbv
  go_wp2_with fail
  go_region_held3 (fun w' => w'.cell? ⟨R, 5, none⟩ = some (.map (some c.W)) ∧ w'.cell? ⟨P, 0, none⟩ = some (.int .i64 t) ∧ w'.cell? ⟨P, 2, none⟩ = some (.int .i64 i)) (first | exact gX | exact g0 | exact HK5.out | exact HK6.out _) (first | (refine step_append_apart rfl (.tmp 51) (.tmp 54) 25 rfl w0.heap.size 3 i0 (.int .i64 0) 1 8 Try.underlying25 HI.out.1 HI.out.2.1 HI.out.2.2.1 HI.out.2.2.2 rfl (by decide) (.slice ad5 n5 c5) n5 ((q1.wrote t).map (Value.int .i64)) (by simp [Act.eval]) (HV.out.alloc _) ⟨V.heap.size, 0, none⟩ 1 1 [.int .i64 i] (by simp [Act.eval]) rfl (int_newQ V i _) (int_oneQ i) (by unfold maxLen; omega) (by omega) (by have := HSZ.out; simp; omega) ?_; intro v2 w2 hown2 hgr2 hap2; obtain ⟨g0, X, gX, hup, g2⟩ := HPT.out v2 w2 _ hown2 hgr2 hap2; clear hap2 hgr2; obtain ⟨ad6, c6, rfl, -⟩ := own_slice3 hown2; have HK2 := hid_q g2; clear g2 hown2))
  all_goals
    go_wp2_with fail
    go_end0
    exact ⟨rfl, HK2.out⟩
end Go.Proofs.Ytccjognnehoodag
