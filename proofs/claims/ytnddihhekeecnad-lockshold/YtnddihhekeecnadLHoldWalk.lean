/-
  PROVED HERE: lanelaw1.LocksHold answers true, over whatever keeps LocksC.
  Conditions: LocksC.
-/
import Derived.Test.YtnddihhekeecnadLocksAsk
import Derived.Test.YtnddihhekeecnadRefLocks0
import Derived.Deep.CutRange
namespace Go.Proofs.Ytnddihhekeecnad
open Go.RowKit

theorem pair_at {R : Op3 → Op3 → Prop} {l : List Op3} (h : l.Pairwise R) {j k : Nat} (hj : j < k) (hk : k < l.length) : R (opAt l j) (opAt l k) := by
  have e1 : opAt l j = l[j] := by simp [opAt, List.getD, List.getElem?_eq_getElem (show j < l.length by omega)]
  have e2 : opAt l k = l[k] := by simp [opAt, List.getD, List.getElem?_eq_getElem hk]
  rw [e1, e2]
  exact List.pairwise_iff_getElem.1 h j k (by omega) hk hj
theorem at_some {l : List Op3} {k : Nat} (hk : k < l.length) : l[k]? = some (opAt l k) := by
  rw [List.getElem?_eq_getElem hk]
  simp [opAt, List.getD, List.getElem?_eq_getElem hk]
theorem freeU_ok {s : Tab2} (h : TabOk s) (t : Int) : TabOk (freeU s t).2 := by
  unfold freeU
  split
  · exact free_ok h t
  · exact h
theorem freeU_sum (s : Tab2) (t : Int) : (freeU s t).2.1.length + (freeU s t).2.2.length ≤ s.1.length + s.2.length := by
  unfold freeU
  split
  · exact free_sum s t
  · exact Nat.le_refl _
/-- A table of the program's, all of which is new. -/
def TabNow (PT : World → Nat → (Nat → Prop) → Tab2 → Prop) (w0 w : World) (T : Nat) (s : Tab2) : Prop := ∃ F, PT w T F s ∧ Below w0.heap.size w0 w ∧ ∀ k, F k → w0.heap.size ≤ k
theorem TabNow.below {PT : World → Nat → (Nat → Prop) → Tab2 → Prop} (hC : LocksC PT) {w0 w w1 : World} {T : Nat} {s : Tab2} (h : TabNow PT w0 w T s) (hb : Below w.heap.size w w1) : TabNow PT w0 w1 T s := by
  obtain ⟨F, h1, h2, h3⟩ := h
  exact ⟨F, hC.below h1 hb, h2.trans (hb.mono h2.size), h3⟩
theorem TabNow.next {PT : World → Nat → (Nat → Prop) → Tab2 → Prop} {w0 w w1 : World} {T : Nat} {s1 : Tab2} {F F1 : Nat → Prop} (h2 : Below w0.heap.size w0 w) (h3 : ∀ k, F k → w0.heap.size ≤ k) (hp : PT w1 T F1 s1) (ht : Turns F w w1) (hf : ∀ k, F1 k → F k ∨ w.heap.size ≤ k) : TabNow PT w0 w1 T s1 := by
  refine ⟨F1, hp, h2.trans (ht.below h2.size fun j hj hF => ?_), fun k hk => ?_⟩
  · have := h3 j hF; omega
  · rcases hf k hk with h | h
    · exact h3 k h
    · exact Nat.le_trans h2.size h
theorem now_new {PT : World → Nat → (Nat → Prop) → Tab2 → Prop} (hC : LocksC PT) (w0 w : World) (h : Below w0.heap.size w0 w) : Calls Try.prog 25 #[] w fun e w' => ∃ T, e = .returned (.pointer (some ⟨T, 0, none⟩)) ∧ TabNow PT w0 w' T ([], []) :=
  (hC.new w).mono fun _ _ ⟨T, F, he, hp, hb, hf⟩ => ⟨T, he, F, hp, h.trans (hb.mono h.size), fun k hk => Nat.le_trans h.size (hf k hk)⟩
theorem now_ask {PT : World → Nat → (Nat → Prop) → Tab2 → Prop} (hC : LocksC PT) (w0 w : World) (T : Nat) (s : Tab2) (x : Op3) (h : TabNow PT w0 w T s) (h1 : s.1.length ≤ 400) (h2 : s.2.length ≤ 400) : Calls Try.prog 26 #[.pointer (some ⟨T, 0, none⟩), lockV x] w fun e w' => e = .returned (.tuple #[.bool (askT s x).1.1, errV (askT s x).1.2]) ∧ TabNow PT w0 w' T (askT s x).2 := by
  obtain ⟨F, hp, hb, hf⟩ := h
  exact (hC.ask w T F s x hp h1 h2).mono fun _ _ ⟨he, F1, hp1, ht1, hf1⟩ => ⟨he, TabNow.next hb hf hp1 ht1 hf1⟩
theorem now_free {PT : World → Nat → (Nat → Prop) → Tab2 → Prop} (hC : LocksC PT) (w0 w : World) (T : Nat) (s : Tab2) (t : Int) (h : TabNow PT w0 w T s) (h1 : s.1.length ≤ 400) (h2 : s.2.length ≤ 400) : Calls Try.prog 27 #[.pointer (some ⟨T, 0, none⟩), .int .i64 t] w fun e w' => ∃ v', e = .returned (.tuple #[v', errV (freeU s t).1.2]) ∧ IsOps w' v' (freeU s t).1.1 ∧ TabNow PT w0 w' T (freeU s t).2 := by
  obtain ⟨F, hp, hb, hf⟩ := h
  exact (hC.free w T F s t hp h1 h2).mono fun _ _ ⟨v', F1, he, ho, hp1, ht1, hf1⟩ => ⟨v', he, ho, TabNow.next hb hf hp1 ht1 hf1⟩
theorem now_whom {PT : World → Nat → (Nat → Prop) → Tab2 → Prop} (hC : LocksC PT) (w0 w : World) (T : Nat) (s : Tab2) (x : Op3) (h : TabNow PT w0 w T s) (h1 : s.1.length ≤ 400) (h2 : s.2.length ≤ 400) : Calls Try.prog 31 #[.pointer (some ⟨T, 0, none⟩), lockV x] w fun e w' => ∃ v', e = .returned (.tuple #[v', errV (forU s x).2]) ∧ IsInts w' v' (forU s x).1 ∧ Below w.heap.size w w' := by
  obtain ⟨F, hp, hb, hf⟩ := h
  exact hC.whom w T F s x hp h1 h2
theorem now_held {PT : World → Nat → (Nat → Prop) → Tab2 → Prop} (hC : LocksC PT) (w0 w : World) (T : Nat) (s : Tab2) (h : TabNow PT w0 w T s) (h1 : s.1.length ≤ 400) (h2 : s.2.length ≤ 400) : Calls Try.prog 28 #[.pointer (some ⟨T, 0, none⟩)] w fun e w' => ∃ v', e = .returned v' ∧ IsOps w' v' s.1 ∧ Below w.heap.size w w' := by
  obtain ⟨F, hp, hb, hf⟩ := h
  exact hC.held w T F s hp h1 h2
theorem now_waits {PT : World → Nat → (Nat → Prop) → Tab2 → Prop} (hC : LocksC PT) (w0 w : World) (T : Nat) (s : Tab2) (h : TabNow PT w0 w T s) (h1 : s.1.length ≤ 400) (h2 : s.2.length ≤ 400) : Calls Try.prog 30 #[.pointer (some ⟨T, 0, none⟩)] w fun e w' => ∃ v', e = .returned v' ∧ IsOps w' v' s.2 ∧ Below w.heap.size w w' := by
  obtain ⟨F, hp, hb, hf⟩ := h
  exact hC.waits w T F s hp h1 h2
theorem TabNow.old {PT : World → Nat → (Nat → Prop) → Tab2 → Prop} {w0 w : World} {T : Nat} {s : Tab2} (h : TabNow PT w0 w T s) : Below w0.heap.size w0 w := by
  obtain ⟨F, -, hb, -⟩ := h
  exact hb
theorem for_len {s : Tab2} (h : TabOk s) {k : Nat} (hk : k < s.2.length) : ∃ n : Nat, (forU s (opAt s.2 k)).1.length = n + 1 ∧ (forU s (opAt s.2 k)).2 = 0 := by
  have h1 : isLock (opAt s.2 k) = true := h.locks.2 _ (opAt_mem hk)
  have h2 := for_pos h (at_some hk)
  unfold forU
  rw [if_pos h1]
  obtain ⟨y, r, hr⟩ := List.exists_cons_of_ne_nil h2
  exact ⟨r.length, by rw [hr]; rfl, rfl⟩

set_option maxHeartbeats 16000000 in
set_option maxRecDepth 100000 in
theorem lhold_walk {PT : World → Nat → (Nat → Prop) → Tab2 → Prop} (hC : LocksC PT) (l : List Op3) (st : List Int) (v u : Value) (w : World) (hI : IsOps w v l) (hS : IsInts w u st) :
    Calls Try.prog 7 #[v, u] w fun e w' => e = .returned (.bool true) ∧ Below w.heap.size w w' := by
  have HC : Hid (LocksC PT) := hC
  obtain ⟨ad, b, off, cap, rfl, ha, -, hbB, hops⟩ := hI
  obtain ⟨ad2, b2, off2, cap2, rfl, ha2, -, hbB2, hc2⟩ := hS
  have HL : Hid (∀ W, Below w.heap.size w W → ∀ k, k < l.length → ad = some ⟨b, off, none⟩ ∧ W.cell? ⟨b, off + k * 3, none⟩ = some (.int .i64 (opAt l k).1) ∧ W.cell? ⟨b, off + k * 3 + 1, none⟩ = some (.int .i64 (opAt l k).2.1) ∧ W.cell? ⟨b, off + k * 3 + 2, none⟩ = some (.int .i64 (opAt l k).2.2)) := fun W hW k hk => ⟨ha (by omega), (hops.below hW hbB) k hk⟩
  have HS : Hid (∀ W, Below w.heap.size w W → ∀ k, k < st.length → ad2 = some ⟨b2, off2, none⟩ ∧ W.cell? ⟨b2, off2 + k, none⟩ = some (.int .i64 (st.getD k 0))) := fun W hW k hk => by
    refine ⟨ha2 (by omega), ?_⟩
    have hb : b2 < w.heap.size := by
      rcases hbB2 with h | h
      · exact h
      · subst h; simp at hk
    exact (hW.cell (p := ⟨b2, off2 + k, none⟩) hb).trans (hc2 k hk)
  obtain ⟨ln, hln⟩ : ∃ ln, l.length = ln := ⟨_, rfl⟩
  obtain ⟨sn, hsn⟩ : ∃ sn, st.length = sn := ⟨_, rfl⟩
  rw [hln] at HL ⊢
  rw [hsn] at HS ⊢
  clear ha hbB hops ha2 hbB2 hc2 hC hln hsn
  have HA1 : Hid (askT ([], []) (1, 1, 2) = ((true, 0), ([(1, 1, 2)], [])) ∧ askT ([(1, 1, 2)], []) (2, 1, 1) = ((false, 0), ([(1, 1, 2)], [(2, 1, 1)])) ∧ freeU ([(1, 1, 2)], [(2, 1, 1)]) 1 = (([(2, 1, 1)], 0), ([(2, 1, 1)], []))) := ⟨by decide, by decide, by decide⟩
  go_enter Try.func7, Try.ntmps7
  go_wp2_with fail
  refine (now_new HC.out w w (Below.refl _ _)).mono ?_
  rintro e w1 ⟨T1, rfl, ht1⟩
  have HT1 : Hid (TabNow PT w w1 T1 ([], [])) := ht1
  clear ht1
  go_wp2_with fail
  refine (now_ask HC.out w w1 T1 ([], []) (1, 1, 2) HT1.out (by simp) (by simp)).mono ?_
  rintro e w2 ⟨rfl, ht2⟩
  rw [HA1.out.1] at ht2 ⊢
  have HT2 : Hid (TabNow PT w w2 T1 ([(1, 1, 2)], [])) := ht2
  clear ht2
  rw [errV_zero]
  go_wp2_with fail
  refine (now_ask HC.out w w2 T1 ([(1, 1, 2)], []) (2, 1, 1) HT2.out (by simp) (by simp)).mono ?_
  rintro e w3 ⟨rfl, ht3⟩
  rw [HA1.out.2.1] at ht3 ⊢
  have HT3 : Hid (TabNow PT w w3 T1 ([(1, 1, 2)], [(2, 1, 1)])) := ht3
  clear ht3
  rw [errV_zero]
  go_wp2_with fail
  refine (now_free HC.out w w3 T1 ([(1, 1, 2)], [(2, 1, 1)]) 1 HT3.out (by simp) (by simp)).mono ?_
  rintro e w4 ⟨v4, rfl, ho4, ht4⟩
  rw [HA1.out.2.2] at ho4 ht4 ⊢
  have HT4 : Hid (Below w.heap.size w w4) := ht4.old
  obtain ⟨ad4, b4, off4, cap4, hv4, ha4, -, -, hops4⟩ := ho4
  obtain rfl := ha4 (by decide)
  have f0 : w4.cell? ⟨b4, off4, none⟩ = some (.int .i64 2) := by have := (hops4 0 (by decide)).1; simpa using this
  simp only [List.length_cons, List.length_nil] at hv4
  subst hv4
  clear ht4 ha4 hops4
  rw [errV_zero]
  go_wp2_with fail
  refine (now_new HC.out w w4 HT4.out).mono ?_
  rintro e w5 ⟨T, rfl, ht5⟩
  have HT5 : Hid (TabNow PT w w5 T ([], [])) := ht5
  clear ht5 f0 HT1 HT2 HT3 HT4 HA1
  go_wp2_with fail
  go_loopw [13, 14] (fun v13 v14 wr => ∃ (a k : Nat) (s : Tab2), a ≤ k ∧ k ≤ sn ∧ k ≤ 80 ∧ v13 = .int .i64 a ∧ v14 = .int .i64 k ∧ TabNow PT w wr T s ∧ TabOk s ∧ s.1.length + s.2.length ≤ k) (fun _ v14 _ => sn - (intOf v14).toNat)
  case atStart => exact ⟨0, 0, ([], []), Nat.zero_le _, Nat.zero_le _, by omega, rfl, rfl, HT5.out, tab_nil, by simp⟩
  case round =>
    obtain ⟨a, k, s, hal, hks, hk80, rfl, rfl, htn, hok, hsum⟩ := hrel
    have HTN : Hid (TabNow PT w wr T s) := htn
    have HOK : Hid (TabOk s) := hok
    have HSUM : Hid (s.1.length + s.2.length ≤ k) := hsum
    have hold := htn.old
    clear htn hok hsum HT5
    by_cases hlt : k < sn
    · have hlt' : (k : Int) < (sn : Int) := by omega
      by_cases h80 : k < 80
      · have h80' : (k : Int) < 80 := by omega
        obtain ⟨hadr, c0⟩ := HS.out wr hold k hlt
        subst hadr
        obtain ⟨x, hx⟩ : ∃ x, st.getD k 0 = x := ⟨_, rfl⟩
        rw [hx] at c0
        clear hx
        go_upto_if 86 with fail
        go_cut [13] from 72 to 193 (fun s13 W => ∃ (a' : Nat) (s' : Tab2), a' ≤ k + 1 ∧ s13 = .int .i64 a' ∧ TabNow PT w W T s' ∧ TabOk s' ∧ s'.1.length + s'.2.length ≤ k + 1)
        case first =>
          by_cases hx : 0 < x
          · have hx' : decide (0 < x) = true := by simpa using hx
            go_wp2_with fail
            refine (now_free HC.out w wr T s x HTN.out (by have := HSUM.out; omega) (by have := HSUM.out; omega)).mono ?_
            rintro e w6 ⟨v6, rfl, -, ht6⟩
            go_wp2_with fail
            go_meet
            exact ⟨a, _, by omega, rfl, ht6, freeU_ok HOK.out x, by have := freeU_sum s x; have := HSUM.out; omega⟩
          · have hx' : decide (0 < x) = false := by simpa using hx
            by_cases hla : a < ln
            · have hla' : (a : Int) < (ln : Int) := by omega
              obtain ⟨hadr, e0, e1, e2⟩ := HL.out wr hold a hla
              subst hadr
              obtain ⟨⟨t2, i2, m2⟩, ho⟩ : ∃ o : Op3, opAt l a = o := ⟨_, rfl⟩
              rw [ho] at e0 e1 e2
              simp only at e0 e1 e2
              clear ho
              go_wp2_with fail
              refine (now_ask HC.out w wr T s (t2, i2, m2) HTN.out (by have := HSUM.out; omega) (by have := HSUM.out; omega)).mono ?_
              rintro e w6 ⟨rfl, ht6⟩
              go_wp2_with fail
              go_meet
              exact ⟨a + 1, _, by omega, by go_num, ht6, ask_ok HOK.out _, by have := ask_sum s (t2, i2, m2); have := HSUM.out; omega⟩
            · have hla' : ¬ (a : Int) < (ln : Int) := by omega
              go_wp2_with fail
              go_meet
              exact ⟨a, s, by omega, rfl, HTN.out, HOK.out, by have := HSUM.out; omega⟩
        case rest =>
          obtain ⟨a', s', hal', rfl, htn', hok', hsum'⟩ := hcut
          have HTC : Hid (TabNow PT w wc T s') := htn'
          have HOC : Hid (TabOk s') := hok'
          have HSC : Hid (s'.1.length + s'.2.length ≤ k + 1) := hsum'
          clear htn' hok' hsum' HTN HOK HSUM hold c0
          go_wp2_with fail
          refine (now_held HC.out w wc T s' HTC.out (by have := HSC.out; omega) (by have := HSC.out; omega)).mono ?_
          rintro e w7 ⟨v7, rfl, ho7, hb7⟩
          have HT7 : Hid (TabNow PT w w7 T s') := HTC.out.below HC.out hb7
          obtain ⟨ad7, b7, off7, cap7, rfl, ha7, -, hbB7, hops7⟩ := ho7
          have HL7 : Hid (∀ W, Below w7.heap.size w7 W → ∀ k, k < s'.1.length → ad7 = some ⟨b7, off7, none⟩ ∧ b7 < w7.heap.size ∧ W.cell? ⟨b7, off7 + k * 3, none⟩ = some (.int .i64 (opAt s'.1 k).1) ∧ W.cell? ⟨b7, off7 + k * 3 + 1, none⟩ = some (.int .i64 (opAt s'.1 k).2.1) ∧ W.cell? ⟨b7, off7 + k * 3 + 2, none⟩ = some (.int .i64 (opAt s'.1 k).2.2)) := fun W hW k hk => by
            refine ⟨ha7 (by omega), ?_, (hops7.below hW hbB7) k hk⟩
            rcases hbB7 with h | h
            · exact h
            · rw [h] at hk; simp at hk
          obtain ⟨n7, hn7⟩ : ∃ n, s'.1.length = n := ⟨_, rfl⟩
          rw [hn7] at HL7 ⊢
          have HN7 : Hid (s'.1.length = n7) := hn7
          have hn7b : n7 ≤ 81 := by have := HSC.out; omega
          clear hb7 ha7 hbB7 hops7 HTC hn7
          go_wp2_with fail
          go_loopw [16] (fun v16 wr => ∃ j : Nat, j ≤ n7 ∧ v16 = .int .i64 j ∧ Below w7.heap.size w7 wr) (fun v16 _ => n7 - (intOf v16).toNat)
          case atStart => exact ⟨0, Nat.zero_le _, rfl, Below.refl _ _⟩
          case round =>
            obtain ⟨j, hj, rfl, hbj⟩ := hrel
            obtain ⟨WJ, hWJ⟩ : ∃ W : World, W = wr := ⟨_, rfl⟩
            rw [← hWJ] at hbj ⊢
            clear hWJ
            have HBJ : Hid (Below w7.heap.size w7 WJ) := hbj
            clear hbj
            by_cases hjl : j < n7
            · have hjl' : (j : Int) < (n7 : Int) := by omega
              go_wp2_with fail
              go_loopw [17] (fun v17 wr => ∃ i : Nat, i ≤ j ∧ v17 = .int .i64 i ∧ Below w7.heap.size w7 wr) (fun v17 _ => j - (intOf v17).toNat)
              case atStart => exact ⟨0, Nat.zero_le _, rfl, HBJ.out⟩
              case round =>
                obtain ⟨i, hi, rfl, hbi⟩ := hrel
                have HBI : Hid (Below w7.heap.size w7 wr) := hbi
                by_cases hij : i < j
                · have hij' : (i : Int) < (j : Int) := by omega
                  obtain ⟨hadr, hbl, e0, e1, e2⟩ := HL7.out wr hbi j hjl
                  subst hadr
                  obtain ⟨-, -, d0, d1, d2⟩ := HL7.out wr hbi i (by omega)
                  have hpe : Peace (opAt s'.1 i) (opAt s'.1 j) := pair_at HOC.out.held hij (by rw [HN7.out]; exact hjl)
                  have HODD0 : ∀ W, Calls Try.prog 29 #[.agg #[.int .i64 (opAt s'.1 j).1, .int .i64 (opAt s'.1 j).2.1, .int .i64 (opAt s'.1 j).2.2], .agg #[.int .i64 (opAt s'.1 i).1, .int .i64 (opAt s'.1 i).2.1, .int .i64 (opAt s'.1 i).2.2]] W fun e w' => e = .returned (.bool false) ∧ Below W.heap.size W w' := fun W => by
                    have := lockOdds_any (opAt s'.1 j) (opAt s'.1 i) W
                    rw [hpe.symm.1] at this
                    exact this
                  obtain ⟨⟨t2, i2, m2⟩, ho⟩ : ∃ o : Op3, opAt s'.1 j = o := ⟨_, rfl⟩
                  obtain ⟨⟨t3, i3, m3⟩, ho3⟩ : ∃ o : Op3, opAt s'.1 i = o := ⟨_, rfl⟩
                  rw [ho] at e0 e1 e2 HODD0 hpe
                  rw [ho3] at d0 d1 d2 HODD0 hpe
                  simp only at e0 e1 e2 d0 d1 d2 HODD0
                  have hlk : t2 = t3 → i2 ≠ i3 := fun h1 h2 => by
                    have := hpe.symm.2
                    rw [likeL_iff.2 ⟨h1, h2⟩] at this
                    cases this
                  have hsz := hbi.size
                  clear ho ho3 hpe hbi
                  obtain ⟨B, hB1, hB2⟩ : ∃ B, B ≤ wr.heap.size ∧ wr.heap.size ≤ B := ⟨_, Nat.le_refl _, Nat.le_refl _⟩
                  have hne : Nonempty (Later B wr) := ⟨⟨wr, Below.refl _ _⟩⟩
                  have HODD : Hid (∀ y : Later B wr, Calls Try.prog 29 #[.agg #[.int .i64 t2, .int .i64 i2, .int .i64 m2], .agg #[.int .i64 t3, .int .i64 i3, .int .i64 m3]] y.W fun e w' => e = .returned (.bool false) ∧ ∃ z : Later B wr, w' = z.W) := fun y => Later.at y hB1 (HODD0 y.W)
                  have g0 : ∀ y : Later B wr, y.W.cell? ⟨b7, off7 + j * 3, none⟩ = some (.int .i64 t2) := fun y => (y.h.cell (p := ⟨b7, off7 + j * 3, none⟩) (by simp; omega)).trans e0
                  have g1 : ∀ y : Later B wr, y.W.cell? ⟨b7, off7 + j * 3 + 1, none⟩ = some (.int .i64 i2) := fun y => (y.h.cell (p := ⟨b7, off7 + j * 3 + 1, none⟩) (by simp; omega)).trans e1
                  have g2 : ∀ y : Later B wr, y.W.cell? ⟨b7, off7 + j * 3 + 2, none⟩ = some (.int .i64 m2) := fun y => (y.h.cell (p := ⟨b7, off7 + j * 3 + 2, none⟩) (by simp; omega)).trans e2
                  have g3 : ∀ y : Later B wr, y.W.cell? ⟨b7, off7 + i * 3, none⟩ = some (.int .i64 t3) := fun y => (y.h.cell (p := ⟨b7, off7 + i * 3, none⟩) (by simp; omega)).trans d0
                  have g4 : ∀ y : Later B wr, y.W.cell? ⟨b7, off7 + i * 3 + 1, none⟩ = some (.int .i64 i3) := fun y => (y.h.cell (p := ⟨b7, off7 + i * 3 + 1, none⟩) (by simp; omega)).trans d1
                  have g5 : ∀ y : Later B wr, y.W.cell? ⟨b7, off7 + i * 3 + 2, none⟩ = some (.int .i64 m3) := fun y => (y.h.cell (p := ⟨b7, off7 + i * 3 + 2, none⟩) (by simp; omega)).trans d2
                  have HG : Hid (∀ y : Later B wr, y.W.cell? ⟨b7, off7 + j * 3, none⟩ = some (.int .i64 t2) ∧ y.W.cell? ⟨b7, off7 + j * 3 + 1, none⟩ = some (.int .i64 i2) ∧ y.W.cell? ⟨b7, off7 + i * 3, none⟩ = some (.int .i64 t3) ∧ y.W.cell? ⟨b7, off7 + i * 3 + 1, none⟩ = some (.int .i64 i3)) := fun y => ⟨g0 y, g1 y, g3 y, g4 y⟩
                  clear HODD0 e0 e1 e2 d0 d1 d2
                  go_wp2_with fail
                  refine region_later B (by kernel_rfl) (by kernel_rfl) ?_
                  repeat (first | go_big_quiet_skip | (go_big_quiet_want; go_big_quiet_op; first | go_big_quiet_on | (refine ⟨_, fun y => HODD.out y, ?_⟩; go_big_quiet_on)))
                  refine wpQuiet_nil ?_
                  intro W hW
                  obtain ⟨y, hy⟩ := hW
                  obtain ⟨e0, e1, d0, d1⟩ := HG.out y
                  rw [← hy] at e0 e1 d0 d1
                  have HBW : Hid (Below w7.heap.size w7 W) := by show Below _ _ _; rw [hy]; exact HBI.out.trans (y.h.mono (by omega))
                  clear hy y g0 g1 g2 g3 g4 g5 HG hne HODD hB1 hB2
                  by_cases h1 : t2 = t3
                  · have h2 := hlk h1
                    subst h1
                    have h2' : (i2 == i3) = false := by simpa using h2
                    clear hlk h2
                    go_wp2_with fail
                    go_quiet (fail)
                    go_wp2_with fail
                    go_roundw
                    case rel => exact ⟨i + 1, by omega, by go_num, below_drewN HBW.out _⟩
                    case measure => simp [intOf]; omega
                  · have h1' : (t2 == t3) = false := by simpa using h1
                    clear hlk h1
                    go_wp2_with fail
                    go_quiet (fail)
                    go_wp2_with fail
                    go_roundw
                    case rel => exact ⟨i + 1, by omega, by go_num, below_drewN HBW.out _⟩
                    case measure => simp [intOf]; omega
                · have hij' : ¬ (i : Int) < (j : Int) := by omega
                  clear hbi
                  go_wp2_with fail
                  go_roundw
                  case rel => exact ⟨j + 1, by omega, by go_num, HBI.out⟩
                  case measure => simp [intOf]; omega
            · have hjl' : ¬ (j : Int) < (n7 : Int) := by omega
              have HT8 : Hid (TabNow PT w WJ T s') := HT7.out.below HC.out HBJ.out
              go_wp2_with fail
              refine (now_waits HC.out w WJ T s' HT8.out (by have := HSC.out; omega) (by have := HSC.out; omega)).mono ?_
              rintro e w9 ⟨v9, rfl, ho9, hb9⟩
              have HT9 : Hid (TabNow PT w w9 T s') := HT8.out.below HC.out hb9
              obtain ⟨ad9, b9, off9, cap9, rfl, ha9, -, hbB9, hops9⟩ := ho9
              have HL9 : Hid (∀ W, Below w9.heap.size w9 W → ∀ k, k < s'.2.length → ad9 = some ⟨b9, off9, none⟩ ∧ b9 < w9.heap.size ∧ W.cell? ⟨b9, off9 + k * 3, none⟩ = some (.int .i64 (opAt s'.2 k).1) ∧ W.cell? ⟨b9, off9 + k * 3 + 1, none⟩ = some (.int .i64 (opAt s'.2 k).2.1) ∧ W.cell? ⟨b9, off9 + k * 3 + 2, none⟩ = some (.int .i64 (opAt s'.2 k).2.2)) := fun W hW k hk => by
                refine ⟨ha9 (by omega), ?_, (hops9.below hW hbB9) k hk⟩
                rcases hbB9 with h | h
                · exact h
                · rw [h] at hk; simp at hk
              obtain ⟨n9, hn9⟩ : ∃ n, s'.2.length = n := ⟨_, rfl⟩
              rw [hn9] at HL9 ⊢
              have HN9 : Hid (s'.2.length = n9) := hn9
              have hn9b : n9 ≤ 81 := by have := HSC.out; omega
              clear hb9 ha9 hbB9 hops9 HT8 HT7 HL7 HBJ hn9
              go_wp2_with fail
              go_loopw [20] (fun v20 wr => ∃ j : Nat, j ≤ n9 ∧ v20 = .int .i64 j ∧ Below w9.heap.size w9 wr) (fun v20 _ => n9 - (intOf v20).toNat)
              case atStart => exact ⟨0, Nat.zero_le _, rfl, Below.refl _ _⟩
              case round =>
                obtain ⟨q, hq, rfl, hbq⟩ := hrel
                obtain ⟨WQ, hWQ⟩ : ∃ W : World, W = wr := ⟨_, rfl⟩
                rw [← hWQ] at hbq ⊢
                clear hWQ
                have HBQ : Hid (Below w9.heap.size w9 WQ) := hbq
                by_cases hql : q < n9
                · have hql' : (q : Int) < (n9 : Int) := by omega
                  obtain ⟨hadr, hbl, e0, e1, e2⟩ := HL9.out WQ hbq q hql
                  subst hadr
                  obtain ⟨n, hn, hz⟩ := for_len HOC.out (k := q) (by rw [HN9.out]; exact hql)
                  have HW : Hid (Calls Try.prog 31 #[.pointer (some ⟨T, 0, none⟩), .agg #[.int .i64 (opAt s'.2 q).1, .int .i64 (opAt s'.2 q).2.1, .int .i64 (opAt s'.2 q).2.2]] WQ fun e w' => ∃ v', e = .returned (.tuple #[v', errV (forU s' (opAt s'.2 q)).2]) ∧ IsInts w' v' (forU s' (opAt s'.2 q)).1 ∧ Below WQ.heap.size WQ w') := now_whom HC.out w WQ T s' (opAt s'.2 q) (HT9.out.below HC.out hbq) (by have := HSC.out; omega) (by have := HSC.out; omega)
                  rw [hz] at HW
                  have HNN : Hid ((forU s' (opAt s'.2 q)).1.length = n + 1) := hn
                  obtain ⟨fl, hfl⟩ : ∃ fl, (forU s' (opAt s'.2 q)).1 = fl := ⟨_, rfl⟩
                  rw [hfl] at HW HNN
                  obtain ⟨⟨t2, i2, m2⟩, ho⟩ : ∃ o : Op3, opAt s'.2 q = o := ⟨_, rfl⟩
                  have HO : Hid (opAt s'.2 q = (t2, i2, m2)) := ho
                  rw [ho] at e0 e1 e2 HW
                  simp only at e0 e1 e2 HW
                  clear ho hfl hn hz hbq
                  go_wp2_with fail
                  refine HW.out.mono ?_
                  rintro e w10 ⟨v10, rfl, hi10, hb10⟩
                  obtain ⟨ad10, b10, off10, cap10, hv10, -, -, -, -⟩ := hi10
                  rw [HNN.out] at hv10
                  subst hv10
                  rw [errV_zero]
                  have HB10 : Hid (Below w9.heap.size w9 w10) := HBQ.out.trans (hb10.mono HBQ.out.size)
                  clear hb10 e0 e1 e2 HBQ
                  have hne0 : (((n : Int) + 1) == 0) = false := by simp; omega
                  go_wp2_with fail
                  go_loopw [23] (fun v23 wr => ∃ i : Nat, i ≤ q ∧ v23 = .int .i64 i ∧ Below w9.heap.size w9 wr) (fun v23 _ => q - (intOf v23).toNat)
                  case atStart => exact ⟨0, Nat.zero_le _, rfl, HB10.out⟩
                  case round =>
                    obtain ⟨i, hi, rfl, hbi⟩ := hrel
                    have HBI : Hid (Below w9.heap.size w9 wr) := hbi
                    by_cases hij : i < q
                    · have hij' : (i : Int) < (q : Int) := by omega
                      obtain ⟨-, -, e0, -, -⟩ := HL9.out wr hbi q hql
                      obtain ⟨-, -, d0, -, -⟩ := HL9.out wr hbi i (by omega)
                      have hne : (opAt s'.2 i).1 ≠ (opAt s'.2 q).1 := pair_at HOC.out.deals hij (by rw [HN9.out]; exact hql)
                      rw [HO.out] at e0 hne
                      obtain ⟨⟨t3, i3, m3⟩, ho3⟩ : ∃ o : Op3, opAt s'.2 i = o := ⟨_, rfl⟩
                      rw [ho3] at d0 hne
                      simp only at e0 d0 hne
                      have hne' : (t3 == t2) = false := by simpa using hne
                      clear ho3 hne hbi
                      go_wp2_with fail
                      go_quiet (fail)
                      go_wp2_with fail
                      go_roundw
                      case rel => exact ⟨i + 1, by omega, by go_num, below_drewN HBI.out _⟩
                      case measure => simp [intOf]; omega
                    · have hij' : ¬ (i : Int) < (q : Int) := by omega
                      clear hbi
                      go_wp2_with fail
                      go_roundw
                      case rel => exact ⟨q + 1, by omega, by go_num, HBI.out⟩
                      case measure => simp [intOf]; omega
                · have hql' : ¬ (q : Int) < (n9 : Int) := by omega
                  have HTQ : Hid (TabNow PT w WQ T s') := HT9.out.below HC.out HBQ.out
                  clear hbq
                  go_wp2_with fail
                  go_roundw
                  case rel => exact ⟨a', k + 1, s', by omega, by omega, by omega, rfl, by go_num, HTQ.out, HOC.out, HSC.out⟩
                  case measure => simp [intOf]; omega
      · have h80' : ¬ (k : Int) < 80 := by omega
        go_wp2_with fail
        go_ret
        exact ⟨rfl, HTN.out.old⟩
    · have hlt' : ¬ (k : Int) < (sn : Int) := by omega
      go_wp2_with fail
      go_ret
      exact ⟨rfl, HTN.out.old⟩
end Go.Proofs.Ytnddihhekeecnad
