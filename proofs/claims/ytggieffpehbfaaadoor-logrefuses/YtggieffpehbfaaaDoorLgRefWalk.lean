/-
  PROVED HERE: lanelaw4.LogRefuses returns true, whatever the numbers, if package log answers as it is asked; old memory stays as it was.
  Conditions: package log's contract (LogW); the variable errors.errorType lies as it should (EtAt).
-/
import Derived.Test.YtggieffpehbfaaaDoorLgAsk
import Derived.Test.YtggieffpehbfaaaDoorTold
namespace Go.Proofs.YtggieffpehbfaaaDoor
open Go.RowKit

theorem ref_bad {t i : Int} (h : t < 1 ∨ 6 < t ∨ i < 1 ∨ 6 < i) : (chk [(t, 1, i)]).2 = 1 := by
  have : isOpB (t, 1, i) = false := by
    unfold isOpB endsB
    simp
    omega
  rw [chk_short _ (by simp), chkFrom_bad1 _ _ this]
theorem op_ok {t i : Int} (h1 : 1 ≤ t) (h6 : t ≤ 6) (i1 : 1 ≤ i) (i6 : i ≤ 6) : isOpB (t, 1, i) = true := by
  unfold isOpB endsB
  simp
  omega
theorem ab_ok {t : Int} (h1 : 1 ≤ t) (h6 : t ≤ 6) : isOpB (t, 4, 0) = true := by
  unfold isOpB endsB
  simp
  omega
theorem ref_ok {t i : Int} (h1 : 1 ≤ t) (h6 : t ≤ 6) (i1 : 1 ≤ i) (i6 : i ≤ 6) : (chk [(t, 1, i)]).2 = 0 ∧ (chk [(t, 1, i), (t, 4, 0)]).2 = 0 ∧ (chk [(t, 1, i), (t, 4, 0), (t, 1, i)]).2 = 6 := by
  have e1 : endedIn [(t, 1, i)] t = false := by simp [endedIn, endsB]
  have e2 : endedIn [(t, 1, i), (t, 4, 0)] t = true := by simp [endedIn, endsB]
  refine ⟨?_, ?_, ?_⟩
  · rw [chk_short _ (by simp), chkFrom_go _ (op_ok h1 h6 i1 i6) rfl]; rfl
  · rw [chk_short _ (by simp), chkFrom_go _ (op_ok h1 h6 i1 i6) rfl, List.nil_append, chkFrom_go _ (ab_ok h1 h6) e1]; rfl
  · rw [chk_short _ (by simp), chkFrom_go _ (op_ok h1 h6 i1 i6) rfl, List.nil_append, chkFrom_go _ (ab_ok h1 h6) e1, List.singleton_append, chkFrom_bad2 _ (op_ok h1 h6 i1 i6) e2]
/-- A Do that is wrong, one that is done: of a Log that has not stopped and does not. -/
theorem do_wrong {s s' : Lg} {o : Op3} {r : Int} (h : DoR s o r s') (h0 : s.stop = false) (hc : (chk (s.hist ++ [o])).2 ≠ 0) : r = (chk (s.hist ++ [o])).2 ∧ s' = s := by
  rcases h with ⟨a1, rfl, rfl⟩ | ⟨a1, a2, rfl, rfl⟩ | ⟨n, a1, a2, a3, a4, a5, rfl, rfl⟩ | ⟨n, a1, a2, a3, a4, a5, rfl, rfl⟩
  · rw [h0] at a1; cases a1
  · exact ⟨rfl, rfl⟩
  · exact absurd a2 hc
  · exact absurd a2 hc
theorem do_does {s s' : Lg} {o : Op3} {r : Int} (h : DoR s o r s') (h0 : s.stop = false) (hc : (chk (s.hist ++ [o])).2 = 0) (hl : s.left ≠ some 0) : r = 0 ∧ ∃ n, 2 ≤ n ∧ n ≤ 1000 ∧ s' = ⟨s.hist ++ [o], s.ends ++ [s.bytes + n], s.bytes + n, s.safe, lessO s.left, false⟩ := by
  rcases h with ⟨a1, rfl, rfl⟩ | ⟨a1, a2, rfl, rfl⟩ | ⟨n, a1, a2, a3, a4, a5, rfl, rfl⟩ | ⟨n, a1, a2, a3, a4, a5, rfl, rfl⟩
  · rw [h0] at a1; cases a1
  · exact absurd hc a2
  · exact absurd a3 hl
  · exact ⟨rfl, n, a4, a5, rfl⟩
set_option maxHeartbeats 8000000 in
set_option maxRecDepth 100000 in
theorem lgref_any {Rep : World → Nat → Lg → (Nat → Prop) → Prop} (hR : LogW Rep) (t i : Int) (w : World) (hg : EtAt w) :
    Calls Tryd.prog 4 #[.int .i64 t, .int .i64 i] w fun e w' => e = .returned (.bool true) ∧ Below w.heap.size w w' := by
  have HNW := hid_l (lg_new hR w)
  have HDO : Hid (∀ W p s o, LgAt Rep w W p s → Calls Tryd.prog 10 #[ptL p, opL o] W fun e w' => ∃ r s', DoR s o r s' ∧ e = .returned (errV r) ∧ LgAt Rep w w' p s') := fun W p s o h => lg_do hR h o
  have HBY : Hid (∀ W p s, LgAt Rep w W p s → Calls Tryd.prog 7 #[ptL p] W fun e w' => e = .returned (.int .i64 s.bytes) ∧ Below W.heap.size W w') := fun W p s h => lg_bytes hR h
  have HAL : Hid (∀ W p s, LgAt Rep w W p s → Calls Tryd.prog 14 #[ptL p] W fun e w' => ∃ v', e = .returned v' ∧ IsOps w' v' s.hist ∧ Below W.heap.size W w') := fun W p s h => lg_all hR h
  have HBE : Hid (∀ W W1 p s, LgAt Rep w W p s → Below W.heap.size W W1 → LgAt Rep w W1 p s) := fun W W1 p s h hb => LgAt.below hR h hb
  have HER : Hid (∀ W n, Below w.heap.size w W → Calls Tryd.prog 11 #[.iface 48 (.int .i64 n), .int .i64 n] W fun r w' => r = .returned (.bool true) ∧ Below W.heap.size W w') := fun W n hW => (error_hit n n W (hg.below hW hg.lt)).mono fun _ _ ⟨h1, h2⟩ => ⟨by rw [h1]; simp, h2⟩
  clear hR hg
  unfold ptL opL at HDO
  unfold ptL at HNW HBY HAL
  go_enter Tryd.func4, Tryd.ntmps4
  go_wp2_with fail
  refine HNW.out.mono ?_
  rintro e w1 ⟨p, rfl, hs1⟩
  have HS1 := hid_l hs1
  clear hs1
  by_cases hbad : t < 1 ∨ 6 < t ∨ i < 1 ∨ 6 < i
  · have hcs : t < 1 ∨ (¬ t < 1 ∧ 6 < t) ∨ (¬ t < 1 ∧ ¬ 6 < t ∧ i < 1) ∨ (¬ t < 1 ∧ ¬ 6 < t ∧ ¬ i < 1 ∧ 6 < i) := by omega
    have HC := hid_l (HDO.out w1 p lg0 (t, 1, i) HS1.out)
    have HRB := hid_l (ref_bad hbad)
    clear hbad
    rcases hcs with h1 | ⟨h1, h2⟩ | ⟨h1, h2, h3⟩ | ⟨h1, h2, h3, h4⟩
    all_goals
      go_wp2_with fail
      refine HC.out.mono ?_
      rintro e w2 ⟨r, s2, hd, rfl, hs2⟩
      obtain ⟨rfl, rfl⟩ := do_wrong hd rfl (by show (chk [(t, 1, i)]).2 ≠ 0; rw [HRB.out]; decide)
      have HEV : Hid (errV (chk (lg0.hist ++ [(t, 1, i)])).2 = .iface 48 (.int .i64 1)) := by show errV (chk [(t, 1, i)]).2 = _; rw [HRB.out]; rfl
      rw [HEV.out]
      have HS2 := hid_l hs2
      have HB2 := hid_l hs2.2.1
      clear hd hs2
      go_wp2_with fail
      refine (HER.out w2 1 HB2.out).mono ?_
      rintro e w3 ⟨rfl, hb3⟩
      have HS3 := hid_l (HBE.out w2 w3 p _ HS2.out hb3)
      have HBB := hid_l (HBY.out w3 p _ HS3.out)
      clear hb3
      go_wp2_with fail
      refine HBB.out.mono ?_
      rintro e w4 ⟨rfl, hb4⟩
      have HB4 : Hid (Below w.heap.size w w4) := HS3.out.2.1.trans (hb4.mono HS3.out.2.1.size)
      clear hb4
      go_wp2_with fail
      go_ret
      exact ⟨rfl, HB4.out⟩
  · have q1 : ¬ t < 1 := by omega
    have q2 : ¬ (6 : Int) < t := by omega
    have q3 : ¬ i < 1 := by omega
    have q4 : ¬ (6 : Int) < i := by omega
    obtain ⟨r1, r2, r3⟩ := ref_ok (t := t) (i := i) (by omega) (by omega) (by omega) (by omega)
    have HR1 := hid_l r1
    have HR2 := hid_l r2
    have HR3 := hid_l r3
    have HC1 := hid_l (HDO.out w1 p lg0 (t, 1, i) HS1.out)
    have HE0 : Hid (errV 0 = .nilIface) := if_pos rfl
    have HE6 : Hid (errV 6 = .iface 48 (.int .i64 6)) := rfl
    clear hbad r1 r2 r3
    go_wp2_with fail
    refine HC1.out.mono ?_
    rintro e w2 ⟨r, s2, hd, rfl, hs2⟩
    obtain ⟨rfl, n1, hn1, hn2, rfl⟩ := do_does hd rfl HR1.out (by intro h; cases h)
    have HC2 := hid_l (HDO.out w2 p _ (t, 4, 0) hs2)
    rw [HE0.out]
    clear hd hs2
    go_wp2_with fail
    refine HC2.out.mono ?_
    rintro e w3 ⟨r, s3, hd, rfl, hs3⟩
    obtain ⟨rfl, n2, hn3, hn4, rfl⟩ := do_does hd rfl HR2.out (by intro h; cases h)
    rw [HE0.out]
    have HS3 := hid_l hs3
    have HB3 := hid_l (HBY.out w3 p _ hs3)
    obtain ⟨K, hK⟩ : ∃ K : Nat, lg0.bytes + n1 + n2 = K := ⟨_, rfl⟩
    have hk4 : (4 : Int) ≤ (K : Int) := by have : lg0.bytes = 0 := rfl; omega
    have hkb : (K : Int) ≤ 2000 := by have : lg0.bytes = 0 := rfl; omega
    simp only [hK] at HB3 HS3
    clear hd hs3 hK
    go_wp2_with fail
    refine HB3.out.mono ?_
    rintro e w4 ⟨rfl, hb4⟩
    have HS4 := hid_l (HBE.out w3 w4 p _ HS3.out hb4)
    have HC4 := hid_l (HDO.out w4 p _ (t, 1, i) HS4.out)
    clear hb4
    go_wp2_with fail
    refine HC4.out.mono ?_
    rintro e w5 ⟨r, s5, hd, rfl, hs5⟩
    obtain ⟨rfl, rfl⟩ := do_wrong hd rfl (by show (chk [(t, 1, i), (t, 4, 0), (t, 1, i)]).2 ≠ 0; rw [HR3.out]; decide)
    have HEV : Hid (errV (chk ((lg0.hist ++ [(t, 1, i)] ++ [(t, 4, 0)]) ++ [(t, 1, i)])).2 = .iface 48 (.int .i64 6)) := by show errV (chk [(t, 1, i), (t, 4, 0), (t, 1, i)]).2 = _; rw [HR3.out]; rfl
    rw [HEV.out]
    have HS5 := hid_l hs5
    clear hd hs5
    go_wp2_with fail
    refine (HER.out w5 6 HS5.out.2.1).mono ?_
    rintro e w6 ⟨rfl, hb6⟩
    have HS6 := hid_l (HBE.out w5 w6 p _ HS5.out hb6)
    have HB6 := hid_l (HBY.out w6 p _ HS6.out)
    clear hb6
    go_wp2_with fail
    refine HB6.out.mono ?_
    rintro e w7 ⟨rfl, hb7⟩
    have HS7 := hid_l (HBE.out w6 w7 p _ HS6.out hb7)
    have HA7 := hid_l (HAL.out w7 p _ HS7.out)
    clear hb7
    go_wp2_with fail
    refine HA7.out.mono ?_
    rintro e w8 ⟨v8, rfl, hi8, hb8⟩
    have HB8 : Hid (Below w.heap.size w w8) := HS7.out.2.1.trans (hb8.mono HS7.out.2.1.size)
    obtain ⟨ad, b, off, cap, rfl, -⟩ := hi8
    have HL2 : Hid ((lg0.hist ++ [(t, 1, i)] ++ [(t, 4, 0)] : List Op3).length = 2) := rfl
    simp only [HL2.out]
    clear hb8
    go_wp2_with fail
    go_ret
    exact ⟨by simp, HB8.out⟩
end Go.Proofs.YtggieffpehbfaaaDoor
