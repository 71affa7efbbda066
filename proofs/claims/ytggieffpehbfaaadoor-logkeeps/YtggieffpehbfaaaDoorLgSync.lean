/-
  PROVED HERE: package log's Sync and Crash.
  Conditions: none.
  (Of these, what the claim wants: the rest was left out.)
-/
import Derived.Test.YtggieffpehbfaaaDoorLgMem
import Derived.Deep.CutBlock
namespace Go.Proofs.YtggieffpehbfaaaDoor
open Go.RowKit

theorem elem_u8 : Tryd.prog.underlying 45 = some (.slice (Tryd.prog.elem 45)) := by kernel_rfl
theorem size_u8 (W : World) : (sizeOf (Tryd.prog.elem 45)).run Tryd.prog W = .ok 1 W := by kernel_rfl
/-- A row's beginning. -/
theorem own_cut {w : World} {base e n k : Nat} {v : Value} {xs : List Value} (h : w.ownsRow base e 1 v n xs) (hk : k ≤ n) :
    ∃ ad cap, (∀ W : World, (Instr.sliceAt 45 v none (some (.int .i64 (k : Int))) none).run Tryd.prog W = .ok (.slice ad k cap) W) ∧ w.ownsRow base e 1 (.slice ad k cap) k (xs.take k) ∧ ∀ g, (Value.slice ad k cap).ownBlock = some g → v.ownBlock = some g := by
  have h' := h
  obtain ⟨hl, ⟨hv, hn⟩ | ⟨g, cap, cur, hv, hb, hg, hnc, hm, hs, ht⟩⟩ := h'
  · have h0 : k = 0 := by omega
    subst h0
    subst hv
    refine ⟨none, 0, fun W => ?_, ?_, fun g hg => by simp [Value.ownBlock] at hg⟩
    · rw [run_sliceAt_slice W _ _ _ _ _ elem_u8, run_slice_h W _ _ _ _ elem_u8 _ _ (by omega) (by simp), size_u8]
      rfl
    · rw [List.take_zero]; exact World.ownsRow_nil _ _ _ _
  · subst hv
    refine ⟨some ⟨g, 0, none⟩, cap, fun W => ?_, ?_, fun g2 hg2 => hg2⟩
    · rw [run_sliceAt_slice W _ _ _ _ _ elem_u8, run_slice_h W _ _ _ _ elem_u8 _ _ (by omega) (by omega), size_u8]
      simp [Result.andThen, sliced, Addr.add]
    · refine ⟨by simp; omega, .inr ⟨g, cap, cur, rfl, hb, hg, by omega, hm, hs, ?_⟩⟩
      rw [← ht, List.take_take, Nat.mul_one, Nat.mul_one, Nat.min_eq_left hk]
section
variable {w : World} {p : Nat} {bv : Value} {st : Int} {rest : List Value} {s : Lg}
theorem LgIs.leftZ (h : LgIs w p bv st rest s) : s.left = some 0 ↔ st = 0 := by rw [h.left]; exact left_zero
set_option maxHeartbeats 4000000 in
theorem sync_lg (h : LgIs w p bv st rest s) : Calls Tryd.prog 12 #[ptL p] w fun e w' => e = .returned (errV (syncE s)) ∧ ∃ st', LgIs w' p bv st' rest (syncS s) ∧ Turns (fun k => k = p) w w' := by
  have c3 := h.blk.stop
  have HH := hid_l h
  by_cases hs : s.stop = true
  · have HE : Hid (syncE s = 6 ∧ syncS s = s) := by
      constructor
      · unfold syncE; rw [if_pos hs]
      · unfold syncS; rw [if_pos hs]
    rw [HE.out.1, HE.out.2]
    rw [hs] at c3
    unfold ptL
    clear h hs
    go_enter Tryd.func12, Tryd.ntmps12
    go_wp2_with fail
    go_ret
    exact ⟨rfl, st, HH.out, Turns.refl _ _⟩
  · have hs0 : s.stop = false := by simpa using hs
    have HC : Hid (Calls Tryd.prog 22 #[.pointer (some ⟨p, 0, none⟩)] w fun e w' => e = .returned (.bool (decide (st = 0))) ∧ LgIs w' p bv (stepN st) rest (stepS s st) ∧ Turns (fun k => k = p) w w') := stops_lg h hs0
    have HLZ := hid_l h.leftZ
    rw [hs0] at c3
    have HS0 := hid_l hs0
    by_cases hz : st = 0
    · have HE : Hid (syncE s = 6 ∧ syncS s = stepS s st) := by
        have h1 := HLZ.out.2 hz
        constructor
        · unfold syncE; rw [if_neg hs, if_pos h1]
        · unfold syncS stepS; rw [if_neg hs, if_pos h1, if_pos hz, decide_eq_true hz]
      rw [HE.out.1, HE.out.2]
      have hd : decide (st = 0) = true := decide_eq_true hz
      rw [hd] at HC
      unfold ptL
      clear h hs hs0 hd
      go_enter Tryd.func12, Tryd.ntmps12
      go_wp2_with (go_at_call 22; refine HC.out.mono ?_; rintro e w1 ⟨rfl, h1, ht1⟩)
      have H1 := hid_l h1
      have HT := hid_l ht1
      clear h1 ht1
      go_wp2_with fail
      go_ret
      exact ⟨rfl, _, H1.out, HT.out⟩
    · have HE : Hid (syncE s = 0 ∧ syncS s = { stepS s st with safe := s.bytes }) := by
        have h1 : ¬ s.left = some 0 := fun e => hz (HLZ.out.1 e)
        constructor
        · unfold syncE; rw [if_neg hs, if_neg h1]
        · unfold syncS stepS; rw [if_neg hs, if_neg h1, if_neg hz, decide_eq_false hz, HS0.out]
      rw [HE.out.1, HE.out.2]
      have hd : decide (st = 0) = false := decide_eq_false hz
      rw [hd] at HC
      unfold ptL
      clear h hs hs0 hd
      go_enter Tryd.func12, Tryd.ntmps12
      go_wp2_with (go_at_call 22; refine HC.out.mono ?_; rintro e w1 ⟨rfl, h1, ht1⟩; have H1 := hid_l h1; have HT := hid_l ht1; have d0 := h1.blk.row; have d1 := h1.blk.safe; have f1 := h1.blk.thaw 1; obtain ⟨ad, c, hbv, -⟩ := own_slice3 h1.row; rw [hbv] at d0; clear h1 ht1 hbv)
      go_ret
      exact ⟨rfl, _, H1.out.block (H1.out.blk.setSafe _) (turns_one _ _ _ _) H1.out.left, HT.out.trans (turns_one _ _ _ _) fun _ _ e => e⟩
/-- What is left by a crash. -/
theorem crash_facts (h : LgIs w p bv st rest s) (hok : LgOk s) (keep : Int) : ∃ k : Nat, k ≤ s.hist.length ∧ k * 3 ≤ s.bytes ∧ (s.safe : Int) ≤ s.bytes ∧ (s.safe : Int) + min (max keep 0) ((s.bytes : Int) - s.safe) - ((s.safe : Int) + min (max keep 0) ((s.bytes : Int) - s.safe)).tmod 3 = ((k * 3 : Nat) : Int) ∧
    0 ≤ (s.safe : Int) + min (max keep 0) ((s.bytes : Int) - s.safe) ∧ (s.safe : Int) + min (max keep 0) ((s.bytes : Int) - s.safe) ≤ 41000 ∧
    crashS s keep = ⟨s.hist.take k, endsN (s.hist.take k).length, k * 3, k * 3, none, false⟩ := by
  have hb := hok.bytesB
  have hB := h.bytes
  have hh := h.half
  have hsl : s.safe ≤ s.bytes ∧ s.safe % 3 = 0 := by
    rcases hok.safe with h1 | h1
    · rw [h1]; exact ⟨Nat.zero_le _, rfl⟩
    · rw [h.ends] at h1
      refine ⟨?_, endsN_three h1⟩
      unfold endsN at h1
      obtain ⟨i, hi, h2⟩ := List.mem_map.1 h1
      have := List.mem_range.1 hi
      omega
  have hhigh : ((highL s keep : Nat) : Int) = (s.safe : Int) + min (max keep 0) ((s.bytes : Int) - s.safe) := by unfold highL; omega
  have hhl : highL s keep ≤ s.bytes := by unfold highL; omega
  have hleft : leftL s keep = highL s keep / 3 := by
    unfold leftL
    rw [h.ends]
    exact endsN_low _ _ (by omega)
  have hk : highL s keep / 3 ≤ s.hist.length := by omega
  refine ⟨highL s keep / 3, hk, by omega, by omega, ?_, by omega, by omega, ?_⟩
  · rw [← hhigh, Int.tmod_eq_emod_of_nonneg (by omega)]
    omega
  · unfold crashS
    rw [hleft, h.ends, endsN_take _ _ hk, endsN_last, List.length_take, Nat.min_eq_left hk]
set_option maxHeartbeats 8000000 in
theorem crash_lg (h : LgIs w p bv st rest s) (hok : LgOk s) (keep : Int) : Calls Tryd.prog 13 #[ptL p, .int .i64 keep] w fun e w' => e = .returned (.tuple #[]) ∧ ∃ bv', LgIs w' p bv' (-1) [] (crashS s keep) ∧ Turns (fun k => k = p) w w' ∧ ∀ g, bv'.ownBlock = some g → bv.ownBlock = some g := by
  obtain ⟨k, hk, hkb, hsb, hK, h0, h1, hcr⟩ := crash_facts h hok keep
  have hb := hok.bytesB
  have hbl := h.bytes
  rw [hcr]
  have c0 := h.blk.row
  have c1 := h.blk.safe
  have c2 := h.blk.left
  have c3 := h.blk.stop
  have f0 := h.blk.thaw 0
  have f1 := h.blk.thaw 1
  have f2 := h.blk.thaw 2
  have f3 := h.blk.thaw 3
  obtain ⟨ad1, cap1, hcu, hrow, hown⟩ := own_cut h.row hkb
  rw [List.take_append_of_le_length (by rw [recL_length]; omega), recL_take] at hrow
  obtain ⟨ad, c, hbv, -⟩ := own_slice3 h.row
  have HH := hid_l h
  have HROW := hid_l hrow
  have HOWN := hid_l hown
  have HKL := hid_l hk
  obtain ⟨S, hS⟩ : ∃ S, s.safe = S := ⟨_, rfl⟩
  obtain ⟨B, hB⟩ : ∃ B, s.bytes = B := ⟨_, rfl⟩
  rw [hS] at c1 h0 h1 hK hsb
  rw [hB] at h0 h1 hK hsb hbv hb
  obtain ⟨T, hT⟩ : ∃ T, (S : Int) + min (max keep 0) ((B : Int) - S) = T := ⟨_, rfl⟩
  rw [hT] at h0 h1 hK
  rw [hbv] at c0 hcu
  have hw1 : wrap64 ((B : Int) - S) = (B : Int) - S := by unfold wrap64; omega
  obtain ⟨KN, hKN⟩ : ∃ KN, k * 3 = KN := ⟨_, rfl⟩
  have hmod : (KN : Int) = T - T % 3 := by rw [← hKN, ← hK, Int.tmod_eq_emod_of_nonneg h0]
  rw [hKN] at hcu hrow hown
  rw [hmod] at hcu
  have HMOD := hid_l hmod
  have HFIN : Hid (∀ w' : World, LogAt w' p (.slice ad1 KN cap1) (KN : Int) (-1) false → Turns (fun j => j = p) w w' → LgIs w' p (.slice ad1 KN cap1) (-1) [] ⟨s.hist.take k, endsN (s.hist.take k).length, k * 3, k * 3, none, false⟩) := fun w' g1 g2 => by
    rw [hKN]
    refine ⟨g1, ?_, fun e => h.ne (hown _ e), Nat.zero_le _, ?_, rfl, rfl⟩
    · rw [List.append_nil]
      exact g2.own hrow fun g hg e => h.ne (by rw [hown g hg, e])
    · show KN = (s.hist.take k).length * 3 + 0
      rw [List.length_take, Nat.min_eq_left hk, hKN]; rfl
  obtain ⟨s', hs'⟩ : ∃ s', (⟨s.hist.take k, endsN (s.hist.take k).length, k * 3, k * 3, none, false⟩ : Lg) = s' := ⟨_, rfl⟩
  rw [hs'] at HFIN ⊢
  have HTT := hid_l hT
  have hBL := h.blk
  have HBL := hid_l hBL
  have HSET : Hid (∀ W : World, W = w.drew → LogAt ((((W.setCell ⟨p, 0, none⟩ (.slice ad1 KN cap1)).setCell ⟨p, 1, none⟩ (.int .i64 (T - T % 3))).setCell ⟨p, 2, none⟩ (.int .i64 (-1))).setCell ⟨p, 3, none⟩ (.bool false)) p (.slice ad1 KN cap1) (KN : Int) (-1) false ∧
      Turns (fun j => j = p) w ((((W.setCell ⟨p, 0, none⟩ (.slice ad1 KN cap1)).setCell ⟨p, 1, none⟩ (.int .i64 (T - T % 3))).setCell ⟨p, 2, none⟩ (.int .i64 (-1))).setCell ⟨p, 3, none⟩ (.bool false))) := fun W hW => by
    subst hW
    rw [← HMOD.out]
    refine ⟨(((LogAt.setRow (w := w.drew) HBL.out _).setSafe _).setLeft _).setStop _, ?_⟩
    exact (((((Turns.refl (fun j => j = p) w).drew).setCell (p := ⟨p, 0, none⟩) (.inl rfl) _).setCell (p := ⟨p, 1, none⟩) (.inl rfl) _).setCell (p := ⟨p, 2, none⟩) (.inl rfl) _).setCell (p := ⟨p, 3, none⟩) (.inl rfl) _
  have HOWN := hid_l hown
  unfold ptL
  clear h hok hcr hrow hown hk hkb hS hB hbv hs' hKN hBL hK hbl
  go_enter Tryd.func13, Tryd.ntmps13
  go_upto_region 0 with (fail)
  go_cut [4] from 5 to 36 (fun v4 W => v4 = .int .i64 T ∧ W = w.drew)
  case first =>
    clear hT hcu
    go_region
    all_goals
      go_wp2_with fail
    all_goals
      go_meet
      exact ⟨congrArg (Value.int .i64) (by have := HTT.out; first | omega | (unfold wrap64; omega)), rfl⟩
  case rest =>
    obtain ⟨rfl, hW⟩ := hcut
    subst hW
    clear hT hmod
    go_wp2_with fail
    go_end0
    obtain ⟨g1, g2⟩ := HSET.out _ rfl
    exact ⟨rfl, _, HFIN.out _ g1 g2, g2, HOWN.out⟩
end
end Go.Proofs.YtggieffpehbfaaaDoor
