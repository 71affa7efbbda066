/-
  PROVED HERE: lanelaw3.LogStops returns true, whatever the numbers, if package log answers as it is asked; old memory stays as it was.
  Conditions: package log's contract (LogW); the variable errors.errorType lies as it should (EtAt).
-/
import Derived.Test.YtggieffpehbfaaaDoorLgRefWalk
namespace Go.Proofs.YtggieffpehbfaaaDoor
open Go.RowKit

def repL (m : Nat) : List Op3 := List.replicate m ((1 : Int), (1 : Int), (1 : Int))
theorem repL_succ (m : Nat) : repL m ++ [(1, 1, 1)] = repL (m + 1) := by unfold repL; rw [List.replicate_succ']
theorem repL_take (m k : Nat) : (repL m).take k = repL (min k m) := by unfold repL; rw [List.take_replicate]
theorem stop_facts : ∀ m : Fin 16, (chk (repL m.1 ++ [(9, 1, 1)])).2 = 1 ∧ (chk (repL m.1 ++ [(1, 1, 1)])).2 = 0 ∧ (chk (repL m.1 ++ [(3, 2, 1)])).2 = 0 ∧ (chk (repL m.1 ++ [(3, 2, 1)] ++ [(3, 3, 0)])).2 = 0 ∧ valsL (doneL (repL m.1 ++ [(3, 2, 1)] ++ [(3, 3, 0)])) = [22, 0, 0, 0, 0, 0] := by decide +kernel
theorem stop_fact {m : Nat} (h : m ≤ 15) : (chk (repL m ++ [(9, 1, 1)])).2 = 1 ∧ (chk (repL m ++ [(1, 1, 1)])).2 = 0 ∧ (chk (repL m ++ [(3, 2, 1)])).2 = 0 ∧ (chk (repL m ++ [(3, 2, 1)] ++ [(3, 3, 0)])).2 = 0 ∧ valsL (doneL (repL m ++ [(3, 2, 1)] ++ [(3, 3, 0)])) = [22, 0, 0, 0, 0, 0] := stop_facts ⟨m, by omega⟩
/-- How it stands behind so many steps. -/
structure StopI (a i : Nat) (s : Lg) : Prop where
  reads : ∃ m, m ≤ 15 ∧ m ≤ i ∧ s.hist = repL m
  run : i ≤ a → s.stop = false ∧ s.left = some (a - i)
  halt : a < i → s.stop = true
  low : a ≤ 15
theorem do_stopped {s s' : Lg} {o : Op3} {r : Int} (h : DoR s o r s') (h0 : s.stop = true) : r = 6 ∧ s' = s := by
  rcases h with ⟨a1, rfl, rfl⟩ | ⟨a1, a2, rfl, rfl⟩ | ⟨n, a1, a2, a3, a4, a5, rfl, rfl⟩ | ⟨n, a1, a2, a3, a4, a5, rfl, rfl⟩
  · exact ⟨rfl, rfl⟩
  · rw [h0] at a1; cases a1
  · rw [h0] at a1; cases a1
  · rw [h0] at a1; cases a1
theorem do_fails {s s' : Lg} {o : Op3} {r : Int} (h : DoR s o r s') (h0 : s.stop = false) (hc : (chk (s.hist ++ [o])).2 = 0) (hl : s.left = some 0) : r = 6 ∧ s'.stop = true ∧ s'.hist = s.hist := by
  rcases h with ⟨a1, rfl, rfl⟩ | ⟨a1, a2, rfl, rfl⟩ | ⟨n, a1, a2, a3, a4, a5, rfl, rfl⟩ | ⟨n, a1, a2, a3, a4, a5, rfl, rfl⟩
  · rw [h0] at a1; cases a1
  · exact absurd hc a2
  · exact ⟨rfl, rfl, rfl⟩
  · exact absurd hl a3
/-- One that is wrong changes nothing. -/
theorem stop_bad {a i : Nat} {s s' : Lg} {r : Int} (h : StopI a i s) (hd : DoR s (9, 1, 1) r s') : s' = s ∧ (i ≤ a → r = 1) ∧ (a < i → r = 6) := by
  rcases Nat.lt_or_ge a i with hlt | hle
  · obtain ⟨h1, h2⟩ := do_stopped hd (h.halt hlt)
    exact ⟨h2, fun h => by omega, fun _ => h1⟩
  · obtain ⟨m, hm, _, he⟩ := h.reads
    have hc := (stop_fact hm).1
    rw [← he] at hc
    obtain ⟨h1, h2⟩ := do_wrong hd (h.run hle).1 (by rw [hc]; decide)
    rw [hc] at h1
    exact ⟨h2, fun _ => h1, fun h => by omega⟩
/-- One that comes to a record is a step. -/
theorem stop_good {a i : Nat} {s s' : Lg} {r : Int} (h : StopI a i s) (hi : i < 15) (hd : DoR s (1, 1, 1) r s') : StopI a (i + 1) s' ∧ (i < a → r = 0) ∧ (a ≤ i → r = 6) := by
  obtain ⟨m, hm, hmi, he⟩ := h.reads
  have hc := (stop_fact hm).2.1
  rw [← he] at hc
  rcases Nat.lt_trichotomy i a with hlt | heq | hgt
  · obtain ⟨h0, hl⟩ := h.run (by omega)
    obtain ⟨h1, n, _, _, rfl⟩ := do_does hd h0 hc (by rw [hl]; intro h; injection h with h; omega)
    refine ⟨⟨⟨m + 1, by omega, by omega, by show s.hist ++ [(1, 1, 1)] = _; rw [he, repL_succ]⟩, fun _ => ⟨rfl, ?_⟩, fun h => by omega, h.low⟩, fun _ => h1, fun h => by omega⟩
    show lessO s.left = _
    have hlow := h.low
    rw [hl, lessO_some (by omega) (by omega)]
    congr 1
  · subst heq
    obtain ⟨h0, hl⟩ := h.run (Nat.le_refl _)
    rw [Nat.sub_self] at hl
    obtain ⟨h1, h2, h3⟩ := do_fails hd h0 hc hl
    exact ⟨⟨⟨m, hm, by omega, by rw [h3]; exact he⟩, fun h => by omega, fun _ => h2, h.low⟩, fun h => by omega, fun _ => h1⟩
  · obtain ⟨h1, rfl⟩ := do_stopped hd (h.halt hgt)
    exact ⟨⟨⟨m, hm, by omega, he⟩, fun h => by omega, fun _ => h.halt hgt, h.low⟩, fun h => by omega, fun _ => h1⟩
theorem stop_sync {a i : Nat} {s : Lg} (h : StopI a i s) (hi : i ≤ a) : StopI a (i + 1) (syncS s) ∧ syncE s = (if i = a then 6 else 0) := by
  obtain ⟨m, hm, hmi, he⟩ := h.reads
  obtain ⟨h0, hl⟩ := h.run hi
  unfold syncS syncE
  simp only [h0, Bool.false_eq_true, if_false]
  by_cases hia : i = a
  · subst hia
    rw [Nat.sub_self] at hl
    simp only [hl, if_true]
    exact ⟨⟨⟨m, hm, by omega, he⟩, fun h => by omega, fun _ => rfl, h.low⟩, by first | exact rfl | trivial⟩
  · have hne : ¬ s.left = some 0 := by rw [hl]; intro h; injection h with h; omega
    simp only [hne, hia, if_false]
    refine ⟨⟨⟨m, hm, by omega, he⟩, fun _ => ⟨rfl, ?_⟩, fun h => by omega, h.low⟩, by first | exact rfl | trivial⟩
    show lessO s.left = _
    have hlow := h.low
    rw [hl, lessO_some (by omega) (by omega)]
    congr 1
/-- What a crash leaves. -/
theorem stop_crash {s : Lg} {m : Nat} (hm : m ≤ 15) (he : s.hist = repL m) (keep : Int) : ∃ k, k ≤ 15 ∧ (crashS s keep).hist = repL k ∧ (crashS s keep).stop = false ∧ (crashS s keep).left = none := by
  refine ⟨min (leftL s keep) m, by omega, ?_, rfl, rfl⟩
  show s.hist.take (leftL s keep) = _
  rw [he, repL_take]
set_option maxHeartbeats 16000000 in
set_option maxRecDepth 100000 in
theorem lgstop_any {Rep : World → Nat → Lg → (Nat → Prop) → Prop} (hR : LogW Rep) (a many keep : Int) (w : World) (hg : EtAt w) :
    Calls Tryd.prog 3 #[.int .i64 a, .int .i64 many, .int .i64 keep] w fun e w' => e = .returned (.bool true) ∧ Below w.heap.size w w' := by
  have HNW := hid_l (lg_new hR w)
  have HDO : Hid (∀ W p s o, LgAt Rep w W p s → Calls Tryd.prog 10 #[ptL p, opL o] W fun e w' => ∃ r s', DoR s o r s' ∧ e = .returned (errV r) ∧ LgAt Rep w w' p s') := fun W p s o h => lg_do hR h o
  have HSY : Hid (∀ W p s, LgAt Rep w W p s → Calls Tryd.prog 12 #[ptL p] W fun e w' => e = .returned (errV (syncE s)) ∧ LgAt Rep w w' p (syncS s)) := fun W p s h => lg_sync hR h
  have HFA : Hid (∀ W p s n, LgAt Rep w W p s → Calls Tryd.prog 9 #[ptL p, .int .i64 n] W fun e w' => e = .returned (.tuple #[]) ∧ LgAt Rep w w' p (failS s n)) := fun W p s n h => lg_fail hR h n
  have HCR : Hid (∀ W p s n, LgAt Rep w W p s → Calls Tryd.prog 13 #[ptL p, .int .i64 n] W fun e w' => e = .returned (.tuple #[]) ∧ LgAt Rep w w' p (crashS s n)) := fun W p s n h => lg_crash hR h n
  have HVA : Hid (∀ W p s, LgAt Rep w W p s → Calls Tryd.prog 8 #[ptL p] W fun e w' => ∃ v', e = .returned v' ∧ IsInts w' v' (valsL (doneL s.hist)) ∧ Below W.heap.size W w') := fun W p s h => lg_values hR h
  have HBY : Hid (∀ W p s, LgAt Rep w W p s → Calls Tryd.prog 7 #[ptL p] W fun e w' => e = .returned (.int .i64 s.bytes) ∧ Below W.heap.size W w') := fun W p s h => lg_bytes hR h
  have HBE : Hid (∀ W W1 p s, LgAt Rep w W p s → Below W.heap.size W W1 → LgAt Rep w W1 p s) := fun W W1 p s h hb => LgAt.below hR h hb
  have HER : Hid (∀ W n x, Below w.heap.size w W → Calls Tryd.prog 11 #[.iface 48 (.int .i64 n), .int .i64 x] W fun r w' => r = .returned (.bool (n == x)) ∧ Below W.heap.size W w') := fun W n x hW => error_hit n x W (hg.below hW hg.lt)
  have HEN : Hid (∀ W x, Calls Tryd.prog 11 #[.nilIface, .int .i64 x] W fun r w' => r = .returned (.bool ((0 : Int) == x)) ∧ Below W.heap.size W w') := fun W x => (error_nil x W).mono fun _ _ ⟨h1, h2⟩ => ⟨h1, by rw [h2]; exact Below.refl _ _⟩
  have HE0 : Hid (errV 0 = .nilIface) := if_pos rfl
  have HE6 : Hid (errV 6 = .iface 48 (.int .i64 6)) := rfl
  have HE1 : Hid (errV 1 = .iface 48 (.int .i64 1)) := rfl
  clear hR hg
  unfold ptL opL at HDO
  unfold ptL at HNW HBY HVA HSY HFA HCR
  go_enter Tryd.func3, Tryd.ntmps3
  go_wp2_with fail
  refine HNW.out.mono ?_
  rintro e w1 ⟨p, rfl, hs1⟩
  have HS1 := hid_l hs1
  clear hs1
  by_cases hbad : a < 0 ∨ 15 < a ∨ many < 0 ∨ 15 < many
  · have hcs : a < 0 ∨ (¬ a < 0 ∧ 15 < a) ∨ (¬ a < 0 ∧ ¬ 15 < a ∧ many < 0) ∨ (¬ a < 0 ∧ ¬ 15 < a ∧ ¬ many < 0 ∧ 15 < many) := by omega
    have HB1 := hid_l (HBY.out w1 p lg0 HS1.out)
    clear hbad
    rcases hcs with h1 | ⟨h1, h2⟩ | ⟨h1, h2, h3⟩ | ⟨h1, h2, h3, h4⟩
    all_goals
      go_wp2_with fail
      refine HB1.out.mono ?_
      rintro e w2 ⟨rfl, hb2⟩
      have HS2 := hid_l (HBE.out w1 w2 p _ HS1.out hb2)
      have HV2 := hid_l (HVA.out w2 p _ HS2.out)
      clear hb2
      go_wp2_with fail
      refine HV2.out.mono ?_
      rintro e w3 ⟨v3, rfl, hi3, hb3⟩
      have HB3 : Hid (Below w.heap.size w w3) := HS2.out.2.1.trans (hb3.mono HS2.out.2.1.size)
      obtain ⟨ad, b, off, cap, rfl, -⟩ := hi3
      have HL6 : Hid ((valsL (doneL lg0.hist)).length = 6) := by show _ = _; unfold valsL; simp
      simp only [HL6.out]
      clear hb3
      go_wp2_with fail
      go_ret
      exact ⟨by simp, HB3.out⟩
  obtain ⟨A, rfl⟩ : ∃ A : Nat, a = A := ⟨a.toNat, by omega⟩
  obtain ⟨M, rfl⟩ : ∃ M : Nat, many = M := ⟨many.toNat, by omega⟩
  have hA0 : ¬ (A : Int) < 0 := by omega
  have hA1 : ¬ (15 : Int) < (A : Int) := by omega
  have hM0 : ¬ (M : Int) < 0 := by omega
  have hM1 : ¬ (15 : Int) < (M : Int) := by omega
  have HF1 := hid_l (HFA.out w1 p lg0 (A : Int) HS1.out)
  have HSI : Hid (StopI A 0 (failS lg0 (A : Int))) := ⟨⟨0, by omega, by omega, rfl⟩, fun _ => ⟨rfl, by show (if (A : Int) < 0 then none else some (A : Int).toNat) = _; rw [if_neg hA0]; simp⟩, fun h => by omega, by omega⟩
  obtain ⟨s0, hs0⟩ : ∃ s, failS lg0 (A : Int) = s := ⟨_, rfl⟩
  rw [hs0] at HF1 HSI
  clear hbad hs0
  go_wp2_with fail
  refine HF1.out.mono ?_
  rintro e w2 ⟨rfl, hs2⟩
  have HS2 := hid_l hs2
  clear hs2 HF1
  go_wp2_with fail
  go_loopw [8, 9] (fun v8 v9 wr => ∃ (i : Nat) (s : Lg), i ≤ M ∧ v8 = .int .i64 i ∧ v9 = .int .i64 i ∧ StopI A i s ∧ LgAt Rep w wr p s) (fun _ v9 _ => M - (intOf v9).toNat)
  case atStart => exact ⟨0, s0, Nat.zero_le _, rfl, rfl, HSI.out, HS2.out⟩
  case round =>
    obtain ⟨i, s, hi, rfl, rfl, hsi, hs⟩ := hrel
    clear HSI HS2
    have HSI := hid_l hsi
    have HS := hid_l hs
    clear hsi hs
    by_cases hlt : i < M
    · have hlt' : (i : Int) < (M : Int) := by omega
      have HC1 := hid_l (HDO.out wr p s (9, 1, 1) HS.out)
      have htri : i < A ∨ i = A ∨ A < i := by omega
      rcases htri with h | h | h
      · have x1 : ¬ (A : Int) < (i : Int) := by omega
        have x2 : (i : Int) ≤ (A : Int) := by omega
        have x3 : ((i : Int) == (A : Int)) = false := by simp; omega
        have x4 : (i : Int) < (A : Int) := by omega
        go_wp2_with fail
        refine HC1.out.mono ?_
        rintro e w4 ⟨r, s4, hd, rfl, hs4⟩
        obtain ⟨rfl, hr1, hr2⟩ := stop_bad HSI.out hd
        obtain rfl := hr1 (by omega)
        rw [HE1.out]
        have HC4 := hid_l (HDO.out w4 p _ (1, 1, 1) hs4)
        clear hd hs4 hr1 hr2
        go_wp2_with fail
        refine HC4.out.mono ?_
        rintro e w5 ⟨r, s5, hd, rfl, hs5⟩
        obtain ⟨hn5, hr1, hr2⟩ := stop_good HSI.out (by omega) hd
        obtain rfl := hr1 h
        rw [HE0.out]
        have HS5 := hid_l hs5
        have HN5 := hid_l hn5
        clear hd hs5 hr1 hr2 hn5
        go_wp2_with fail
        refine (HER.out w5 1 6 HS5.out.2.1).mono ?_
        rintro e w6 ⟨rfl, hb6⟩
        have HS6 := hid_l (HBE.out w5 w6 p _ HS5.out hb6)
        clear hb6
        go_wp2_with fail
        refine (HER.out w6 1 1 HS6.out.2.1).mono ?_
        rintro e w7 ⟨rfl, hb7⟩
        have HS7 := hid_l (HBE.out w6 w7 p _ HS6.out hb7)
        clear hb7
        go_wp2_with fail
        refine (HEN.out w7 6).mono ?_
        rintro e w8 ⟨rfl, hb8⟩
        have HS8 := hid_l (HBE.out w7 w8 p _ HS7.out hb8)
        clear hb8
        go_wp2_with fail
        go_roundw
        case rel => exact ⟨i + 1, _, by omega, by go_num, by go_num, HN5.out, HS8.out⟩
        case measure => simp [intOf]; omega
      · have x1 : ¬ (A : Int) < (i : Int) := by omega
        have x2 : (i : Int) ≤ (A : Int) := by omega
        have x3 : ((i : Int) == (A : Int)) = true := by simp; omega
        have x4 : ¬ (i : Int) < (A : Int) := by omega
        go_wp2_with fail
        refine HC1.out.mono ?_
        rintro e w4 ⟨r, s4, hd, rfl, hs4⟩
        obtain ⟨rfl, hr1, hr2⟩ := stop_bad HSI.out hd
        obtain rfl := hr1 (by omega)
        rw [HE1.out]
        have HC4 := hid_l (HDO.out w4 p _ (1, 1, 1) hs4)
        clear hd hs4 hr1 hr2
        go_wp2_with fail
        refine HC4.out.mono ?_
        rintro e w5 ⟨r, s5, hd, rfl, hs5⟩
        obtain ⟨hn5, hr1, hr2⟩ := stop_good HSI.out (by omega) hd
        obtain rfl := hr2 (by omega)
        rw [HE6.out]
        have HS5 := hid_l hs5
        have HN5 := hid_l hn5
        clear hd hs5 hr1 hr2 hn5
        go_wp2_with fail
        refine (HER.out w5 1 6 HS5.out.2.1).mono ?_
        rintro e w6 ⟨rfl, hb6⟩
        have HS6 := hid_l (HBE.out w5 w6 p _ HS5.out hb6)
        clear hb6
        go_wp2_with fail
        refine (HER.out w6 1 1 HS6.out.2.1).mono ?_
        rintro e w7 ⟨rfl, hb7⟩
        have HS7 := hid_l (HBE.out w6 w7 p _ HS6.out hb7)
        clear hb7
        go_wp2_with fail
        refine (HER.out w7 6 6 HS7.out.2.1).mono ?_
        rintro e w8 ⟨rfl, hb8⟩
        have HS8 := hid_l (HBE.out w7 w8 p _ HS7.out hb8)
        clear hb8
        go_wp2_with fail
        go_roundw
        case rel => exact ⟨i + 1, _, by omega, by go_num, by go_num, HN5.out, HS8.out⟩
        case measure => simp [intOf]; omega
      · have x1 : (A : Int) < (i : Int) := by omega
        have x2 : ¬ (i : Int) ≤ (A : Int) := by omega
        have x3 : ((i : Int) == (A : Int)) = false := by simp; omega
        have x4 : ¬ (i : Int) < (A : Int) := by omega
        go_wp2_with fail
        refine HC1.out.mono ?_
        rintro e w4 ⟨r, s4, hd, rfl, hs4⟩
        obtain ⟨rfl, hr1, hr2⟩ := stop_bad HSI.out hd
        obtain rfl := hr2 h
        rw [HE6.out]
        have HC4 := hid_l (HDO.out w4 p _ (1, 1, 1) hs4)
        clear hd hs4 hr1 hr2
        go_wp2_with fail
        refine HC4.out.mono ?_
        rintro e w5 ⟨r, s5, hd, rfl, hs5⟩
        obtain ⟨hn5, hr1, hr2⟩ := stop_good HSI.out (by omega) hd
        obtain rfl := hr2 (by omega)
        rw [HE6.out]
        have HS5 := hid_l hs5
        have HN5 := hid_l hn5
        clear hd hs5 hr1 hr2 hn5
        go_wp2_with fail
        refine (HER.out w5 6 6 HS5.out.2.1).mono ?_
        rintro e w6 ⟨rfl, hb6⟩
        have HS6 := hid_l (HBE.out w5 w6 p _ HS5.out hb6)
        clear hb6
        go_wp2_with fail
        refine (HER.out w6 6 1 HS6.out.2.1).mono ?_
        rintro e w7 ⟨rfl, hb7⟩
        have HS7 := hid_l (HBE.out w6 w7 p _ HS6.out hb7)
        clear hb7
        go_wp2_with fail
        refine (HER.out w7 6 6 HS7.out.2.1).mono ?_
        rintro e w8 ⟨rfl, hb8⟩
        have HS8 := hid_l (HBE.out w7 w8 p _ HS7.out hb8)
        clear hb8
        go_wp2_with fail
        go_roundw
        case rel => exact ⟨i + 1, _, by omega, by go_num, by go_num, HN5.out, HS8.out⟩
        case measure => simp [intOf]; omega
    · have hlt' : ¬ (i : Int) < (M : Int) := by omega
      obtain rfl : i = M := by omega
      go_wp2_with fail
      go_loopw [8] (fun v8 wr => ∃ (k : Nat) (s : Lg), i ≤ k ∧ k ≤ 16 ∧ v8 = .int .i64 k ∧ StopI A k s ∧ LgAt Rep w wr p s) (fun v8 _ => A + 1 - (intOf v8).toNat)
      case atStart => exact ⟨i, s, Nat.le_refl _, by omega, rfl, HSI.out, HS.out⟩
      case round =>
        clear HSI HS
        obtain ⟨k, s, hik, hk16, rfl, hsi, hs⟩ := hrel
        have HSI := hid_l hsi
        have HS := hid_l hs
        clear hsi hs
        by_cases hka : k ≤ A
        · have hka' : (k : Int) ≤ (A : Int) := by omega
          obtain ⟨g1, g2⟩ := stop_sync HSI.out hka
          have HG1 := hid_l g1
          have HC := hid_l (HSY.out wr p s HS.out)
          rw [g2] at HC
          clear g1 g2
          by_cases hke : k = A
          · have hke' : ((k : Int) == (A : Int)) = true := by rw [hke]; simp
            rw [if_pos hke, HE6.out] at HC
            go_wp2_with fail
            refine HC.out.mono ?_
            rintro e w3 ⟨rfl, hs3⟩
            have HS3 := hid_l hs3
            clear hs3
            go_wp2_with fail
            go_roundw
            case rel => exact ⟨k + 1, _, by omega, by omega, by go_num, HG1.out, HS3.out⟩
            case measure => simp [intOf]; omega
          · have hke' : ((k : Int) == (A : Int)) = false := beq_eq_false_iff_ne.2 (by omega)
            rw [if_neg hke, HE0.out] at HC
            go_wp2_with fail
            refine HC.out.mono ?_
            rintro e w3 ⟨rfl, hs3⟩
            have HS3 := hid_l hs3
            clear hs3
            go_wp2_with fail
            go_roundw
            case rel => exact ⟨k + 1, _, by omega, by omega, by go_num, HG1.out, HS3.out⟩
            case measure => simp [intOf]; omega
        · have hka' : ¬ (k : Int) ≤ (A : Int) := by omega
          have hstop := HSI.out.halt (by omega)
          have hse : syncE s = 6 := by unfold syncE; rw [if_pos hstop]
          have hss : syncS s = s := by unfold syncS; rw [if_pos hstop]
          have HST := hid_l hstop
          have HC := hid_l (HSY.out wr p s HS.out)
          rw [hse, hss, HE6.out] at HC
          obtain ⟨m, hm, -, he⟩ := HSI.out.reads
          obtain ⟨q, hq, hq1, hq2, hq3⟩ := stop_crash hm he keep
          obtain ⟨f1, f2, f3, f4, f5⟩ := stop_fact hq
          have HQ := hid_l (And.intro hq1 (And.intro hq2 hq3))
          have HF3 := hid_l f3
          have HF4 := hid_l f4
          have HF5 := hid_l f5
          clear hse hss hstop he hq1 hq2 hq3 f1 f2 f3 f4 f5
          go_wp2_with fail
          refine HC.out.mono ?_
          rintro e w3 ⟨rfl, hs3⟩
          have HC3 := hid_l (HDO.out w3 p s (2, 1, 1) hs3)
          clear hs3
          go_wp2_with fail
          refine HC3.out.mono ?_
          rintro e w4 ⟨r, s4, hd, rfl, hs4⟩
          obtain ⟨rfl, rfl⟩ := do_stopped hd HST.out
          rw [HE6.out]
          have HS4 := hid_l hs4
          clear hd hs4
          go_wp2_with fail
          refine (HER.out w4 6 6 HS4.out.2.1).mono ?_
          rintro e w5 ⟨rfl, hb5⟩
          have HS5 := hid_l (HBE.out w4 w5 p _ HS4.out hb5)
          clear hb5
          go_wp2_with fail
          refine (HER.out w5 6 6 HS5.out.2.1).mono ?_
          rintro e w6 ⟨rfl, hb6⟩
          have HC6 := hid_l (HCR.out w6 p _ keep (HBE.out w5 w6 p _ HS5.out hb6))
          clear hb6
          go_wp2_with fail
          refine HC6.out.mono ?_
          rintro e w7 ⟨rfl, hs7⟩
          have HC7 := hid_l (HDO.out w7 p _ (3, 2, 1) hs7)
          clear hs7
          go_wp2_with fail
          refine HC7.out.mono ?_
          rintro e w8 ⟨r, s8, hd, rfl, hs8⟩
          obtain ⟨rfl, n8, -, -, rfl⟩ := do_does hd HQ.out.2.1 (by rw [HQ.out.1]; exact HF3.out) (by rw [HQ.out.2.2]; intro h; cases h)
          rw [HE0.out]
          have HC8 := hid_l (HDO.out w8 p _ (3, 3, 0) hs8)
          clear hd hs8
          go_wp2_with fail
          refine HC8.out.mono ?_
          rintro e w9 ⟨r, s9, hd, rfl, hs9⟩
          obtain ⟨rfl, n9, -, -, rfl⟩ := do_does hd rfl (by show (chk ((crashS s4 keep).hist ++ [(3, 2, 1)] ++ [(3, 3, 0)])).2 = 0; rw [HQ.out.1]; exact HF4.out) (by show lessO (crashS s4 keep).left ≠ _; rw [HQ.out.2.2]; decide)
          rw [HE0.out]
          have HC9 := hid_l (HSY.out w9 p _ hs9)
          clear hd hs9
          obtain ⟨s9, hs9⟩ : ∃ x, x = (⟨(crashS s4 keep).hist ++ [(3, 2, 1)] ++ [(3, 3, 0)], (crashS s4 keep).ends ++ [(crashS s4 keep).bytes + n8] ++ [(crashS s4 keep).bytes + n8 + n9], (crashS s4 keep).bytes + n8 + n9, (crashS s4 keep).safe, lessO (lessO (crashS s4 keep).left), false⟩ : Lg) := ⟨_, rfl⟩
          have HH9 : Hid (s9.hist = repL q ++ [(3, 2, 1)] ++ [(3, 3, 0)]) := by show _ = _; rw [hs9, ← HQ.out.1]
          have HE9 : Hid (syncE s9 = 0 ∧ (syncS s9).hist = s9.hist) := by
            have g1 : s9.stop = false := by rw [hs9]
            have g2 : ¬ s9.left = some 0 := by rw [hs9]; show ¬ lessO (lessO (crashS s4 keep).left) = some 0; rw [HQ.out.2.2]; decide
            unfold syncE syncS
            simp only [g1, g2, Bool.false_eq_true, if_false]
            exact ⟨by first | exact rfl | trivial, by first | exact rfl | trivial⟩
          simp only [← hs9] at HC9
          rw [HE9.out.1, HE0.out] at HC9
          clear hs9
          go_wp2_with fail
          refine HC9.out.mono ?_
          rintro e wa ⟨rfl, hsa⟩
          have HVV := hid_l (HVA.out wa p _ hsa)
          rw [HE9.out.2, HH9.out, HF5.out] at HVV
          have HSA := hid_l hsa
          clear hsa
          go_wp2_with fail
          refine HVV.out.mono ?_
          rintro e wb ⟨vb, rfl, hib, hbb⟩
          have HBB : Hid (Below w.heap.size w wb) := HSA.out.2.1.trans (hbb.mono HSA.out.2.1.size)
          obtain ⟨ad, b, off, cap, rfl, ha, -, -, hcs⟩ := hib
          obtain rfl := ha (by decide)
          have hc0 := hcs 0 (by decide)
          have hbl := World.block_lt_of_cell? wb _ hc0
          have HL6 : Hid (([22, 0, 0, 0, 0, 0] : List Int).length = 6) := rfl
          simp only [HL6.out]
          simp only [List.getD_cons_zero, Nat.add_zero] at hc0 hbl
          clear hbb hcs ha
          go_wp2_with fail
          go_ret
          exact ⟨by simp, HBB.out⟩
end Go.Proofs.YtggieffpehbfaaaDoor
