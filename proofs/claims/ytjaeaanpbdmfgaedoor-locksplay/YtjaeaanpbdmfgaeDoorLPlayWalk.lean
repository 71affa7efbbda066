/-
  PROVED HERE: lanelaw1.LocksPlay answers true, over whatever keeps LocksC.
  Conditions: LocksC; the variable errors.errorType holds the handle of the type error.
-/
import Derived.Test.YtjaeaanpbdmfgaeDoorLPlayMem
import Derived.Deep.CutRange
import Derived.Deep.RegionHeld3
namespace Go.Proofs.YtjaeaanpbdmfgaeDoor
open Go.RowKit

set_option maxHeartbeats 16000000 in
set_option maxRecDepth 100000 in
theorem lplay_walk {PT : World → Nat → (Nat → Prop) → Tab2 → Prop} (hC : LocksC PT) (l : List Op3) (st : List Int) (x : Op3) (v u : Value) (w : World) (hI : IsOps w v l) (hS : IsInts w u st) (hg : EtAt w) :
    Calls Tryd.prog 3 #[v, u, lockV x] w fun e w' => e = .returned (.bool true) ∧ Below w.heap.size w w' := by
  obtain ⟨xt, xi, xm⟩ := x
  have HC : Hid (LocksC PT) := hC
  obtain ⟨ad, b, off, cap, rfl, ha, -, hbB, hops⟩ := hI
  obtain ⟨ad2, b2, off2, cap2, rfl, ha2, -, hbB2, hc2⟩ := hS
  have HL : Hid (∀ W, Below w.heap.size w W → ∀ k, k < l.length → ad = some ⟨b, off, none⟩ ∧ W.cell? ⟨b, off + k * 3, none⟩ = some (.int .i64 (opAt l k).1) ∧ W.cell? ⟨b, off + k * 3 + 1, none⟩ = some (.int .i64 (opAt l k).2.1) ∧ W.cell? ⟨b, off + k * 3 + 2, none⟩ = some (.int .i64 (opAt l k).2.2)) := fun W hW k hk => ⟨ha (by omega), (hops.below hW hbB) k hk⟩
  have HS : Hid (∀ W, Below w.heap.size w W → ∀ k, k < st.length → ad2 = some ⟨b2, off2, none⟩ ∧ W.cell? ⟨b2, off2 + k, none⟩ = some (.int .i64 (st.getD k 0))) := fun W hW k hk => by
    refine ⟨ha2 (by omega), ?_⟩
    have hb : b2 < w.heap.size := by
      rcases hbB2 with h | h
      · exact h
      · subst h; simp at hk
    exact (hW.cell (p := ⟨b2, off2 + k, none⟩) hb).trans (hc2 k hk)
  have HET : Hid (∀ W, Below w.heap.size w W → EtAt W) := fun W hW => hg.below hW hg.lt
  obtain ⟨ln, hln⟩ : ∃ ln, l.length = ln := ⟨_, rfl⟩
  obtain ⟨sn, hsn⟩ : ∃ sn, st.length = sn := ⟨_, rfl⟩
  rw [hln] at HL ⊢
  rw [hsn] at HS ⊢
  clear ha hbB hops ha2 hbB2 hc2 hC hln hsn hg
  go_enter Tryd.func3, Tryd.ntmps3
  go_upto_region 1 with (fail)
  obtain ⟨X, hX⟩ : ∃ W, W = w.alloc (.cells #[.int .i64 xt, .int .i64 xi, .int .i64 xm] 25) := ⟨_, rfl⟩
  rw [← hX]
  have HX : Hid (Below w.heap.size w X) := by show Below _ _ _; rw [hX]; exact (Below.refl _ w).alloc (Nat.le_refl _) _
  have p0 : X.cell? ⟨w.heap.size, 0, none⟩ = some (.int .i64 xt) := by rw [hX]; simp
  have p1 : X.cell? ⟨w.heap.size, 1, none⟩ = some (.int .i64 xi) := by rw [hX]; simp
  have p2 : X.cell? ⟨w.heap.size, 2, none⟩ = some (.int .i64 xm) := by rw [hX]; simp
  have hPX : w.heap.size < X.heap.size := World.block_lt_of_cell? X _ p0
  have HXC : Hid (∀ W, Below X.heap.size X W → W.cell? ⟨w.heap.size, 0, none⟩ = some (.int .i64 xt) ∧ W.cell? ⟨w.heap.size, 1, none⟩ = some (.int .i64 xi) ∧ W.cell? ⟨w.heap.size, 2, none⟩ = some (.int .i64 xm)) := fun W hW => ⟨(hW.cell (p := ⟨w.heap.size, 0, none⟩) hPX).trans p0, (hW.cell (p := ⟨w.heap.size, 1, none⟩) hPX).trans p1, (hW.cell (p := ⟨w.heap.size, 2, none⟩) hPX).trans p2⟩
  have HOLD : Hid (∀ W, Below X.heap.size X W → Below w.heap.size w W) := fun W hW => HX.out.trans (hW.mono HX.out.size)
  clear hX p0 p1 p2
  go_wp2_with fail
  refine (HC.out.new X).mono ?_
  rintro e w1 ⟨T, F, rfl, hp1, hb1, hf1⟩
  have HTW : Hid (TwoX PT X (w1.alloc (.cells #[.slice none 0 0, .slice none 0 0] 30)) T w1.heap.size ([], []) ([], []) (.slice none 0 0) []) := by
    refine ⟨F, .slice none 0 0, .slice none 0 0, HC.out.below hp1 ((Below.refl _ w1).alloc (Nat.le_refl _) _), ⟨?_, rfl, rfl, World.ownsRow_nil _ _ _ _, World.ownsRow_nil _ _ _ _, fun g hg => by simp [Value.ownBlock] at hg⟩, hb1.alloc hb1.size _, hf1, hb1.size, fun k hk hft => ?_, World.ownsRow_nil _ _ _ _, fun g hg => by simp [Value.ownBlock] at hg⟩
    · exact heap_alloc_new w1 _
    · have h1 := HC.out.lt hp1 k hk
      rcases hft with h | h | h
      · omega
      · simp [Value.ownBlock] at h
      · simp [Value.ownBlock] at h
  clear hp1 hb1 hf1
  go_upto_region 3 with (fail)
  obtain ⟨Y, hY⟩ : ∃ Y, Y = w1.alloc (.cells #[.slice none 0 0, .slice none 0 0] 30) := ⟨_, rfl⟩
  obtain ⟨M, hM⟩ : ∃ M, M = w1.heap.size := ⟨_, rfl⟩
  rw [← hY, ← hM] at HTW ⊢
  clear hY hM
  go_wp2_with fail
  go_loopw [9, 10] (fun v9 v10 wr => ∃ (a k : Nat) (s : Tab2), a ≤ k ∧ k ≤ sn ∧ k ≤ 80 ∧ v9 = .int .i64 a ∧ v10 = .int .i64 k ∧ TwoX PT X wr T M s s (.slice none 0 0) [] ∧ s.1.length + s.2.length ≤ k) (fun _ v10 _ => sn - (intOf v10).toNat)
  case atStart => exact ⟨0, 0, ([], []), Nat.zero_le _, Nat.zero_le _, by omega, rfl, rfl, HTW.out, by simp⟩
  case round =>
    obtain ⟨a, k, s, hal, hks, hk80, rfl, rfl, htw, hsum⟩ := hrel
    have HT0 : Hid (TwoX PT X wr T M s s (.slice none 0 0) []) := htw
    have HSUM : Hid (s.1.length + s.2.length ≤ k) := hsum
    have hold := HOLD.out wr htw.old
    clear htw hsum HTW
    by_cases hlt : k < sn
    · have hlt' : (k : Int) < (sn : Int) := by omega
      by_cases h80 : k < 80
      · have h80' : (k : Int) < 80 := by omega
        obtain ⟨hadr, c0⟩ := HS.out wr hold k hlt
        subst hadr
        obtain ⟨t, ht⟩ : ∃ t, st.getD k 0 = t := ⟨_, rfl⟩
        rw [ht] at c0
        clear ht
        go_upto_if 45 with fail
        go_cut [9, 11, 12, 13, 14, 15, 16, 17, 18, 19, 20, 21] from 31 to 152 (fun s9 s11 s12 s13 s14 s15 s16 s17 s18 s19 s20 s21 W => ∃ (a' : Nat) (s' : Tab2), a' ≤ k + 1 ∧ s9 = .int .i64 a' ∧ s11 = .bool true ∧ TwoX PT X W T M s' s' (.slice none 0 0) [] ∧ s'.1.length + s'.2.length ≤ k + 1)
        case first =>
          by_cases ht : 0 < t
          · have ht' : decide (0 < t) = true := by simpa using ht
            go_wp2_with fail
            refine (lTx_any t wr).mono ?_
            rintro e w2 ⟨rfl, hw2⟩
            rw [hw2]
            clear hw2 w2
            by_cases hd : 1 ≤ t ∧ t ≤ 6
            · have hd' : decide (1 ≤ t ∧ t ≤ 6) = true := by simpa using hd
              have HU : Hid (freeU s t = (((freeT s t).2, 0), (freeT s t).1)) := if_pos hd
              have HUS : Hid ((freeT s t).1.1.length + (freeT s t).1.2.length ≤ k + 1 ∧ (freeT s t).2.length ≤ 1000) := by
                have h1 := free_sum s t
                have h2 := HSUM.out
                have h3 := (grants_len (withoutL s.2 t) ((withoutL s.1 t, []), [])).2.2
                have h4 : (withoutL s.2 t).length ≤ s.2.length := List.length_filter_le _ _
                simp only [List.length_nil] at h3
                exact ⟨by omega, by unfold freeT; omega⟩
              clear hd
              go_wp2_with fail
              refine (two_rfree HC.out t HT0.out (by have := HSUM.out; omega) (by have := HSUM.out; omega)).mono ?_
              rintro e w2 ⟨v2, rfl, ht2⟩
              have HT2 : Hid (TwoX PT X w2 T M s (freeT s t).1 v2 (freeT s t).2) := ht2
              have c2 := (HS.out w2 (HOLD.out w2 ht2.old) k hlt).2
              have c2' : w2.cell? ⟨b2, off2 + k, none⟩ = some (.int .i64 t) := by rw [c2, ← c0, (HS.out wr hold k hlt).2]
              clear ht2 c2
              go_wp2_with fail
              refine (two_free HC.out t HT2.out (by have := HSUM.out; omega) (by have := HSUM.out; omega)).mono ?_
              rintro e w3 ⟨v3, rfl, ho3, ht3⟩
              rw [HU.out] at ho3 ht3 ⊢
              have HT3 : Hid (TwoX PT X w3 T M (freeT s t).1 (freeT s t).1 v2 (freeT s t).2) := ht3
              have HO3 : Hid (IsOps w3 v3 (freeT s t).2) := ho3
              clear ho3 ht3
              rw [errV_zero]
              go_wp2_with fail
              refine (err_lk 0 w3 (HET.out w3 (HOLD.out w3 HT3.out.old))).mono ?_
              rintro e w4 ⟨rfl, hb4⟩
              have HT4 : Hid (TwoX PT X w4 T M (freeT s t).1 (freeT s t).1 v2 (freeT s t).2) := HT3.out.below HC.out hb4
              have HO4 : Hid (IsOps w4 v3 (freeT s t).2) := HO3.out.below hb4 (Nat.le_refl _)
              clear hb4
              go_wp2_with fail
              refine (same_locks (freeT s t).2 v3 v2 w4 HO4.out HT4.out.list (by have := HUS.out.2; omega)).mono ?_
              rintro e w5 ⟨rfl, hb5⟩
              go_wp2_with fail
              go_meet
              exact ⟨a, _, by omega, rfl, rfl, (HT4.out.below HC.out hb5).bare, HUS.out.1⟩
            · have hd' : decide (1 ≤ t ∧ t ≤ 6) = false := by simpa using hd
              have HU : Hid (freeU s t = (([], 1), s)) := if_neg hd
              clear hd
              go_wp2_with fail
              refine (two_free HC.out t HT0.out (by have := HSUM.out; omega) (by have := HSUM.out; omega)).mono ?_
              rintro e w3 ⟨v3, rfl, ho3, ht3⟩
              rw [HU.out] at ho3 ht3 ⊢
              have HT3 : Hid (TwoX PT X w3 T M s s (.slice none 0 0) []) := ht3
              have HO3 : Hid (IsOps w3 v3 []) := ho3
              clear ho3 ht3
              go_wp2_with fail
              refine (err_lk 1 w3 (HET.out w3 (HOLD.out w3 HT3.out.old))).mono ?_
              rintro e w4 ⟨rfl, hb4⟩
              have HT4 : Hid (TwoX PT X w4 T M s s (.slice none 0 0) []) := HT3.out.below HC.out hb4
              have HO4 : Hid (IsOps w4 v3 []) := HO3.out.below hb4 (Nat.le_refl _)
              clear hb4
              go_wp2_with fail
              refine (same_locks [] v3 (.slice none 0 0) w4 HO4.out HT4.out.list (by simp)).mono ?_
              rintro e w5 ⟨rfl, hb5⟩
              go_wp2_with fail
              go_meet
              exact ⟨a, _, by omega, rfl, rfl, HT4.out.below HC.out hb5, by have := HSUM.out; omega⟩
          · have ht' : decide (0 < t) = false := by simpa using ht
            by_cases hla : a < ln
            · have hla' : (a : Int) < (ln : Int) := by omega
              obtain ⟨hadr, e0, e1, e2⟩ := HL.out wr hold a hla
              subst hadr
              obtain ⟨⟨t2, i2, m2⟩, ho⟩ : ∃ o : Op3, opAt l a = o := ⟨_, rfl⟩
              rw [ho] at e0 e1 e2
              simp only at e0 e1 e2
              clear ho
              have hbw : b < wr.heap.size := World.block_lt_of_cell? wr _ e0
              have e0' : ∀ o : Obj, (wr.alloc o).cell? ⟨b, off + a * 3, none⟩ = some (.int .i64 t2) := fun o => by rw [World.cell?_alloc_lt _ _ ⟨b, off + a * 3, none⟩ hbw]; exact e0
              have e1' : ∀ o : Obj, (wr.alloc o).cell? ⟨b, off + a * 3 + 1, none⟩ = some (.int .i64 i2) := fun o => by rw [World.cell?_alloc_lt _ _ ⟨b, off + a * 3 + 1, none⟩ hbw]; exact e1
              have e2' : ∀ o : Obj, (wr.alloc o).cell? ⟨b, off + a * 3 + 2, none⟩ = some (.int .i64 m2) := fun o => by rw [World.cell?_alloc_lt _ _ ⟨b, off + a * 3 + 2, none⟩ hbw]; exact e2
              go_upto_region 20 with fail
              have HTV0 := HT0.out.box HC.out t2 i2 m2
              obtain ⟨V, hV⟩ : ∃ V, V = wr.alloc (.cells #[.int .i64 t2, .int .i64 i2, .int .i64 m2] 25) := ⟨_, rfl⟩
              obtain ⟨Q, hQ⟩ : ∃ Q, Q = wr.heap.size := ⟨_, rfl⟩
              rw [← hV, ← hQ] at HTV0
              rw [← hV, ← hQ]
              have HTV : Hid (TwoX PT X V T M s s (.slice (some ⟨Q, 0, none⟩) 1 1) [(t2, i2, m2)]) := HTV0
              obtain ⟨q0, q1, q2⟩ := HTV0.cells3
              clear hV hQ HTV0 e0 e1 e2 e0' e1' e2' hbw
              obtain ⟨⟨⟨ab, an⟩, s2⟩, hask⟩ : ∃ r, askT s (t2, i2, m2) = r := ⟨_, rfl⟩
              have HASUM : Hid (s2.1.length + s2.2.length ≤ k + 1) := by
                show _ + _ ≤ _
                have h1 := ask_sum s (t2, i2, m2)
                have h2 := HSUM.out
                rw [hask] at h1
                simp only at h1
                omega
              have HRA : Hid (Calls Tryd.prog 12 #[.pointer (some ⟨M, 0, none⟩), .agg #[.int .i64 t2, .int .i64 i2, .int .i64 m2]] V fun e w' => e = .returned (.tuple #[.bool ab, .int .i64 an]) ∧ TwoX PT X w' T M s s2 (.slice (some ⟨Q, 0, none⟩) 1 1) [(t2, i2, m2)]) := by
                have := two_rask HC.out (t2, i2, m2) HTV.out (by have := HSUM.out; omega) (by have := HSUM.out; omega)
                rw [hask] at this
                exact this
              have HPA : Hid (∀ W, TwoX PT X W T M s s2 (.slice (some ⟨Q, 0, none⟩) 1 1) [(t2, i2, m2)] → Calls Tryd.prog 13 #[.pointer (some ⟨T, 0, none⟩), .agg #[.int .i64 t2, .int .i64 i2, .int .i64 m2]] W fun e w' => e = .returned (.tuple #[.bool ab, errV an]) ∧ TwoX PT X w' T M s2 s2 (.slice (some ⟨Q, 0, none⟩) 1 1) [(t2, i2, m2)]) := fun W hW => by
                have := two_ask HC.out (t2, i2, m2) hW (by have := HSUM.out; omega) (by have := HSUM.out; omega)
                rw [hask] at this
                exact this
              clear hask
              go_wp2_with fail
              refine HRA.out.mono ?_
              rintro e w2 ⟨rfl, ht2⟩
              have HT2 : Hid (TwoX PT X w2 T M s s2 (.slice (some ⟨Q, 0, none⟩) 1 1) [(t2, i2, m2)]) := ht2
              clear q0 q1 q2
              obtain ⟨q0, q1, q2⟩ := ht2.cells3
              clear ht2
              go_wp2_with fail
              refine (HPA.out w2 HT2.out).mono ?_
              rintro e w3 ⟨rfl, ht3⟩
              have HT3 : Hid (TwoX PT X w3 T M s2 s2 (.slice none 0 0) []) := ht3.bare
              clear ht3 q0 q1 q2
              go_wp2_with fail
              refine (err_lk an w3 (HET.out w3 (HOLD.out w3 HT3.out.old))).mono ?_
              rintro e w4 ⟨rfl, hb4⟩
              have HT4 : Hid (TwoX PT X w4 T M s2 s2 (.slice none 0 0) []) := HT3.out.below HC.out hb4
              clear hb4
              have hab : (ab == ab) = true := by simp
              go_wp2_with fail
              go_meet
              exact ⟨a + 1, s2, by omega, by go_num, rfl, HT4.out, HASUM.out⟩
            · have hla' : ¬ (a : Int) < (ln : Int) := by omega
              go_upto_region 21 with fail
              have HTV0 := HT0.out.box HC.out 0 0 0
              obtain ⟨V, hV⟩ : ∃ V, V = wr.alloc (.cells #[.int .i64 0, .int .i64 0, .int .i64 0] 25) := ⟨_, rfl⟩
              obtain ⟨Q, hQ⟩ : ∃ Q, Q = wr.heap.size := ⟨_, rfl⟩
              rw [← hV, ← hQ] at HTV0
              rw [← hV, ← hQ]
              have HTV : Hid (TwoX PT X V T M s s (.slice (some ⟨Q, 0, none⟩) 1 1) [(0, 0, 0)]) := HTV0
              obtain ⟨q0, q1, q2⟩ := HTV0.cells3
              clear hV hQ HTV0 c0
              obtain ⟨⟨⟨ab, an⟩, s2⟩, hask⟩ : ∃ r, askT s (0, 0, 0) = r := ⟨_, rfl⟩
              have HASUM : Hid (s2.1.length + s2.2.length ≤ k + 1) := by
                show _ + _ ≤ _
                have h1 := ask_sum s (0, 0, 0)
                have h2 := HSUM.out
                rw [hask] at h1
                simp only at h1
                omega
              have HRA : Hid (Calls Tryd.prog 12 #[.pointer (some ⟨M, 0, none⟩), .agg #[.int .i64 0, .int .i64 0, .int .i64 0]] V fun e w' => e = .returned (.tuple #[.bool ab, .int .i64 an]) ∧ TwoX PT X w' T M s s2 (.slice (some ⟨Q, 0, none⟩) 1 1) [(0, 0, 0)]) := by
                have := two_rask HC.out (0, 0, 0) HTV.out (by have := HSUM.out; omega) (by have := HSUM.out; omega)
                rw [hask] at this
                exact this
              have HPA : Hid (∀ W, TwoX PT X W T M s s2 (.slice (some ⟨Q, 0, none⟩) 1 1) [(0, 0, 0)] → Calls Tryd.prog 13 #[.pointer (some ⟨T, 0, none⟩), .agg #[.int .i64 0, .int .i64 0, .int .i64 0]] W fun e w' => e = .returned (.tuple #[.bool ab, errV an]) ∧ TwoX PT X w' T M s2 s2 (.slice (some ⟨Q, 0, none⟩) 1 1) [(0, 0, 0)]) := fun W hW => by
                have := two_ask HC.out (0, 0, 0) hW (by have := HSUM.out; omega) (by have := HSUM.out; omega)
                rw [hask] at this
                exact this
              clear hask
              go_wp2_with fail
              refine HRA.out.mono ?_
              rintro e w2 ⟨rfl, ht2⟩
              have HT2 : Hid (TwoX PT X w2 T M s s2 (.slice (some ⟨Q, 0, none⟩) 1 1) [(0, 0, 0)]) := ht2
              clear q0 q1 q2
              obtain ⟨q0, q1, q2⟩ := ht2.cells3
              clear ht2
              go_wp2_with fail
              refine (HPA.out w2 HT2.out).mono ?_
              rintro e w3 ⟨rfl, ht3⟩
              have HT3 : Hid (TwoX PT X w3 T M s2 s2 (.slice none 0 0) []) := ht3.bare
              clear ht3 q0 q1 q2
              go_wp2_with fail
              refine (err_lk an w3 (HET.out w3 (HOLD.out w3 HT3.out.old))).mono ?_
              rintro e w4 ⟨rfl, hb4⟩
              have HT4 : Hid (TwoX PT X w4 T M s2 s2 (.slice none 0 0) []) := HT3.out.below HC.out hb4
              clear hb4
              have hab : (ab == ab) = true := by simp
              go_wp2_with fail
              go_meet
              exact ⟨a, s2, by omega, rfl, rfl, HT4.out, HASUM.out⟩
        case rest =>
          obtain ⟨a', s', hal', rfl, rfl, htw', hsum'⟩ := hcut
          have HTC : Hid (TwoX PT X wc T M s' s' (.slice none 0 0) []) := htw'
          have HSC : Hid (s'.1.length + s'.2.length ≤ k + 1) := hsum'
          obtain ⟨p0, p1, p2⟩ := HXC.out wc htw'.old
          clear htw' hsum' HT0 HSUM hold c0
          go_wp2_with fail
          refine (lock_raw xt xi xm wc).mono ?_
          rintro e w2 ⟨rfl, hb2⟩
          have HT2 : Hid (TwoX PT X w2 T M s' s' (.slice none 0 0) []) := HTC.out.below HC.out hb2
          clear hb2 p0 p1 p2 HTC
          obtain ⟨p0, p1, p2⟩ := HXC.out w2 HT2.out.old
          go_upto_if 109 with fail
          go_cut [22, 23, 24] from 31 to 152 (fun s22 s23 s24 W => s22 = .int .i64 (forU s' (xt, xi, xm)).2 ∧ IsInts W s23 (forU s' (xt, xi, xm)).1 ∧ TwoX PT X W T M s' s' (.slice none 0 0) [])
          case first =>
            cases hlk : isLock (xt, xi, xm) with
            | true =>
              have HU : Hid (forU s' (xt, xi, xm) = (forT s' (xt, xi, xm), 0)) := if_pos hlk
              clear hlk
              go_wp2_with fail
              refine (two_rwhom (xt, xi, xm) HT2.out (by have := HSC.out; omega) (by have := HSC.out; omega)).mono ?_
              rintro e w3 ⟨v3, rfl, hi3, hb3⟩
              go_wp2_with fail
              go_meet
              rw [HU.out]
              exact ⟨rfl, hi3, HT2.out.below HC.out hb3⟩
            | false =>
              have HU : Hid (forU s' (xt, xi, xm) = ([], 1)) := if_neg (by rw [hlk]; decide)
              clear hlk
              go_wp2_with fail
              go_meet
              rw [HU.out]
              exact ⟨rfl, isInts_nil _, HT2.out⟩
          case rest =>
            obtain ⟨hs22, hi23, ht3⟩ := hcut
            subst hs22
            have HT3 : Hid (TwoX PT X wc T M s' s' (.slice none 0 0) []) := ht3
            have HI3 : Hid (IsInts wc u23 (forU s' (xt, xi, xm)).1) := hi23
            clear hi23 HT2 p0 p1 p2
            obtain ⟨p0, p1, p2⟩ := HXC.out wc ht3.old
            clear ht3
            obtain ⟨⟨fl, fe⟩, hfu⟩ : ∃ r, forU s' (xt, xi, xm) = r := ⟨_, rfl⟩
            have HW : Hid (Calls Tryd.prog 16 #[.pointer (some ⟨T, 0, none⟩), .agg #[.int .i64 xt, .int .i64 xi, .int .i64 xm]] wc fun e w' => ∃ v', e = .returned (.tuple #[v', errV fe]) ∧ IsInts w' v' fl ∧ Below wc.heap.size wc w') := by
              have := two_whom HC.out (xt, xi, xm) HT3.out (by have := HSC.out; omega) (by have := HSC.out; omega)
              rw [hfu] at this
              exact this
            have HFL : Hid (fl.length ≤ 1000) := by
              show fl.length ≤ 1000
              have h1 := putsO_len (oddsL (aheadL s'.2 xt) (xt, xi, xm)) (putsO [] (oddsL s'.1 (xt, xi, xm)))
              have h2 := putsO_len (oddsL s'.1 (xt, xi, xm)) []
              have h3 : (oddsL s'.1 (xt, xi, xm)).length ≤ s'.1.length := List.length_filter_le _ _
              have h4 : (oddsL (aheadL s'.2 xt) (xt, xi, xm)).length ≤ (aheadL s'.2 xt).length := List.length_filter_le _ _
              have h5 : (aheadL s'.2 xt).length ≤ s'.2.length := (List.takeWhile_sublist _).length_le
              have h6 := HSC.out
              simp only [List.length_nil] at h2
              have h7 : fl = (forU s' (xt, xi, xm)).1 := by rw [hfu]
              rw [h7]
              unfold forU
              split
              · unfold forT
                simp only
                omega
              · simp
            rw [hfu] at HI3 ⊢
            clear hfu
            go_wp2_with fail
            refine HW.out.mono ?_
            rintro e w4 ⟨v4, rfl, hi4, hb4⟩
            have HI4 : Hid (IsInts w4 v4 fl ∧ IsInts w4 u23 fl) := ⟨hi4, HI3.out.below hb4 (Nat.le_refl _)⟩
            have HT4 : Hid (TwoX PT X w4 T M s' s' (.slice none 0 0) []) := HT3.out.below HC.out hb4
            clear hi4 hb4 HW HI3 HT3 p0 p1 p2
            go_wp2_with fail
            refine (err_lk fe w4 (HET.out w4 (HOLD.out w4 HT4.out.old))).mono ?_
            rintro e w5 ⟨rfl, hb5⟩
            have HI5 : Hid (IsInts w5 v4 fl ∧ IsInts w5 u23 fl) := ⟨HI4.out.1.below hb5 (Nat.le_refl _), HI4.out.2.below hb5 (Nat.le_refl _)⟩
            have HT5 : Hid (TwoX PT X w5 T M s' s' (.slice none 0 0) []) := HT4.out.below HC.out hb5
            clear hb5 HI4 HT4
            go_wp2_with fail
            refine (same_ints fl v4 u23 w5 HI5.out.1 HI5.out.2 (by have := HFL.out; omega)).mono ?_
            rintro e w6 ⟨rfl, hb6⟩
            have HT6 : Hid (TwoX PT X w6 T M s' s' (.slice none 0 0) []) := HT5.out.below HC.out hb6
            clear hb6 HI5 HT5
            obtain ⟨F6, hv6, wv6, h6⟩ := HT6.out
            obtain ⟨ha6, hc6, rfl, -⟩ := own_slice3 h6.r.oh
            obtain ⟨wa6, wc6, rfl, -⟩ := own_slice3 h6.r.ow
            obtain ⟨n1, hn1⟩ : ∃ n, s'.1.length = n := ⟨_, rfl⟩
            obtain ⟨n2, hn2⟩ : ∃ n, s'.2.length = n := ⟨_, rfl⟩
            have HNN : Hid (s'.1.length = n1 ∧ s'.2.length = n2) := ⟨hn1, hn2⟩
            rw [hn1, hn2] at h6
            have HR6 : Hid (∀ W, Below w6.heap.size w6 W → TabAt W 30 M 0 #[.slice ha6 n1 hc6, .slice wa6 n2 wc6] (.slice ha6 n1 hc6) (.slice wa6 n2 wc6) s') := fun W hW => h6.r.below hW
            clear hn1 hn2 h6
            have HH : Hid (∀ W, Below w6.heap.size w6 W → Calls Tryd.prog 18 #[.pointer (some ⟨T, 0, none⟩)] W fun e w' => ∃ v', e = .returned v' ∧ IsOps w' v' s'.1 ∧ Below w6.heap.size w6 w') := fun W hW => (two_held HC.out (HT6.out.below HC.out hW) (by have := HSC.out; omega) (by have := HSC.out; omega)).mono fun _ _ ⟨v', h1, h2, h3⟩ => ⟨v', h1, h2, hW.trans (h3.mono hW.size)⟩
            have HWT : Hid (∀ W, Below w6.heap.size w6 W → Calls Tryd.prog 19 #[.pointer (some ⟨T, 0, none⟩)] W fun e w' => ∃ v', e = .returned v' ∧ IsOps w' v' s'.2 ∧ Below w6.heap.size w6 w') := fun W hW => (two_waits HC.out (HT6.out.below HC.out hW) (by have := HSC.out; omega) (by have := HSC.out; omega)).mono fun _ _ ⟨v', h1, h2, h3⟩ => ⟨v', h1, h2, hW.trans (h3.mono hW.size)⟩
            have HL1 : Hid (∀ W v', Below w6.heap.size w6 W → IsOps W v' s'.1 → Calls Tryd.prog 11 #[v', .slice ha6 n1 hc6] W fun e w' => ∃ v, e = .returned v ∧ v = .bool true ∧ Below w6.heap.size w6 w') := fun W v' hW hv' => (same_locks s'.1 v' _ W hv' (HR6.out W hW).held (by have := HSC.out; omega)).mono fun _ _ ⟨h1, h2⟩ => ⟨_, h1, rfl, hW.trans (h2.mono hW.size)⟩
            have HL2 : Hid (∀ W v', Below w6.heap.size w6 W → IsOps W v' s'.2 → Calls Tryd.prog 11 #[v', .slice wa6 n2 wc6] W fun e w' => ∃ v, e = .returned v ∧ v = .bool true ∧ Below w6.heap.size w6 w') := fun W v' hW hv' => (same_locks s'.2 v' _ W hv' (HR6.out W hW).waits (by have := HSC.out; omega)).mono fun _ _ ⟨h1, h2⟩ => ⟨_, h1, rfl, hW.trans (h2.mono hW.size)⟩
            have g0 := (HR6.out w6 (Below.refl _ _)).c0
            have g1 := (HR6.out w6 (Below.refl _ _)).c1
            have hW0 : Below w6.heap.size w6 w6.drew := (Below.refl _ w6).drew
            go_wp2_with fail
            go_region_held3 (fun w' => w'.cell? ⟨M, 0, none⟩ = some (.slice ha6 n1 hc6) ∧ w'.cell? ⟨M, 1, none⟩ = some (.slice wa6 n2 wc6)) (first | exact ⟨kz0, kz1⟩ | exact ⟨kw0, kw1⟩ | exact ⟨kl0, kl1⟩ | exact ⟨kh0, kh1⟩ | exact ⟨g0, g1⟩) (first | (go_at_call 18; refine (HH.out _ hW0).mono ?_; rintro e WH ⟨vh, rfl, hoh, hbh⟩; have kh0 := (HR6.out WH hbh).c0; have kh1 := (HR6.out WH hbh).c1) | (go_at_call 11; refine (HL2.out _ _ hbw how).mono ?_; rintro e WZ ⟨vz, rfl, rfl, hbz⟩; have kz0 := (HR6.out WZ hbz).c0; have kz1 := (HR6.out WZ hbz).c1) | (go_at_call 11; refine (HL1.out _ _ hbh hoh).mono ?_; rintro e WL ⟨vl, rfl, rfl, hbl⟩; have kl0 := (HR6.out WL hbl).c0; have kl1 := (HR6.out WL hbl).c1) | (go_at_call 19; refine (HWT.out _ hbl).mono ?_; rintro e WW ⟨vw, rfl, how, hbw⟩; have kw0 := (HR6.out WW hbw).c0; have kw1 := (HR6.out WW hbw).c1))
            all_goals
              have HTZ : Hid (TwoX PT X WZ T M s' s' (.slice none 0 0) []) := HT6.out.below HC.out hbz
              go_wp2_with fail
              go_roundw
              case rel => exact ⟨a', k + 1, s', by omega, by omega, by omega, rfl, by go_num, HTZ.out, HSC.out⟩
              case measure => simp [intOf]; omega
      · have h80' : ¬ (k : Int) < 80 := by omega
        go_wp2_with fail
        go_ret
        exact ⟨rfl, hold⟩
    · have hlt' : ¬ (k : Int) < (sn : Int) := by omega
      go_wp2_with fail
      go_ret
      exact ⟨rfl, hold⟩
end Go.Proofs.YtjaeaanpbdmfgaeDoor
