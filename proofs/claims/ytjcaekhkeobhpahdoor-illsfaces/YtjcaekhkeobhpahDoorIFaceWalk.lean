/-
  PROVED HERE: lanelaw3.IllsFaces answers true, of any ops, over whatever keeps IllsOfC, IllsFirstC and FacesC.
  Conditions: these; the slice is no longer than its capacity; the variable errors.errorType holds the handle of the type error.
-/
import Derived.Test.YtjcaekhkeobhpahDoorIllsSer
import Derived.Test.YtjcaekhkeobhpahDoorTold
import Derived.Deep.Cut
namespace Go.Proofs.YtjcaekhkeobhpahDoor
open Go.RowKit

theorem hid_f {p : Prop} (h : p) : Hid p := h
/-- What faces.Of is asked. -/
def facesU (l : List Op3) : Bool × Bool × Bool × Bool := if (chk l).2 ≠ 0 then (false, false, false, false) else (recB l, cauB l, strB l, rigB l)
def FacesC : Prop := ∀ (l : List Op3) (ad : Option Addr) (cap : Nat) (w : World), IsOps w (.slice ad l.length cap) l → l.length ≤ cap → Calls Tryd.prog 11 #[.slice ad l.length cap] w fun e w' => e = .returned (.tuple #[illsV (facesU l), errV (chk l).2]) ∧ Below w.heap.size w w'
theorem isOps_cutF {W : World} {ad : Option Addr} {cap k : Nat} {l : List Op3} (h : IsOps W (.slice ad l.length cap) l) (hk : k ≤ l.length) : IsOps W (.slice ad k cap) (l.take k) := by
  obtain ⟨ad', b, off, cap', hv, ha, hn, hbB, hops⟩ := h
  simp only [Value.slice.injEq] at hv
  obtain ⟨rfl, _, rfl⟩ := hv
  have hlk : (l.take k).length = k := by rw [List.length_take, Nat.min_eq_left hk]
  refine ⟨ad, b, off, cap, by rw [hlk], fun hp => ha (by omega), fun h0 => ?_, ?_, fun i hi => ?_⟩
  · have := hn h0; exact ⟨by omega, this.2⟩
  · rcases hbB with h | h
    · exact .inl h
    · exact .inr (by rw [h]; simp)
  · have hik : i < k := by omega
    rw [show (l.take k).getD i (0, 0, 0) = l.getD i (0, 0, 0) by simp [List.getD, hik]]
    exact hops i (by omega)
theorem lost4_at (W : World) : IsOps (W.alloc (.cells #[.int .i64 1, .int .i64 1, .int .i64 1, .int .i64 2, .int .i64 2, .int .i64 1, .int .i64 1, .int .i64 2, .int .i64 1, .int .i64 1, .int .i64 3, .int .i64 0] 37)) (.slice (some ⟨W.heap.size, 0, none⟩) 4 4) lost4 := by
  refine ⟨some ⟨W.heap.size, 0, none⟩, W.heap.size, 0, 4, rfl, fun _ => rfl, fun h => (by cases h), .inl (by simp), opsAt_of fun j u hj => ?_⟩
  rw [Nat.zero_add]
  match j, hj with
  | 0, hj => simp [flat, lost4] at hj; subst hj; simp
  | 1, hj => simp [flat, lost4] at hj; subst hj; simp
  | 2, hj => simp [flat, lost4] at hj; subst hj; simp
  | 3, hj => simp [flat, lost4] at hj; subst hj; simp
  | 4, hj => simp [flat, lost4] at hj; subst hj; simp
  | 5, hj => simp [flat, lost4] at hj; subst hj; simp
  | 6, hj => simp [flat, lost4] at hj; subst hj; simp
  | 7, hj => simp [flat, lost4] at hj; subst hj; simp
  | 8, hj => simp [flat, lost4] at hj; subst hj; simp
  | 9, hj => simp [flat, lost4] at hj; subst hj; simp
  | 10, hj => simp [flat, lost4] at hj; subst hj; simp
  | 11, hj => simp [flat, lost4] at hj; subst hj; simp
  | k + 12, hj => simp [flat, lost4] at hj
theorem elem_opsF : Tryd.prog.underlying 22 = some (.slice (Tryd.prog.elem 22)) := by kernel_rfl
theorem size_opF (W : World) : (sizeOf (Tryd.prog.elem 22)).run Tryd.prog W = .ok 3 W := by kernel_rfl
/-- A list of ops up to its k-th. -/
theorem cut_run {ad : Option Addr} {n cap k : Nat} (hk : k ≤ cap) : ∀ W : World, (Instr.sliceAt 22 (.slice ad n cap) none (some (.int .i64 (k : Int))) none).run Tryd.prog W = .ok (.slice ad k cap) W := fun W => by
  rw [run_sliceAt_slice W _ _ _ _ _ elem_opsF, run_slice_h W _ _ _ _ elem_opsF _ _ (by omega) (by omega), size_opF]
  cases ad with
  | none => simp [Result.andThen, sliced]
  | some a => simp [Result.andThen, sliced, Addr.add]
set_option maxHeartbeats 16000000 in
set_option maxRecDepth 100000 in
theorem iface_any (hOf : IllsOfC) (hFi : IllsFirstC) (hFa : FacesC) (l : List Op3) (ad : Option Addr) (cap : Nat) (w : World) (hI : IsOps w (.slice ad l.length cap) l) (hcap : l.length ≤ cap) (hg : EtAt w) :
    Calls Tryd.prog 4 #[.slice ad l.length cap] w fun e w' => e = .returned (.bool true) ∧ Below w.heap.size w w' := by
  have HIE : Hid (∀ W, Below w.heap.size w W → IsOps W (.slice ad l.length cap) l ∧ EtAt W) := fun W hW => ⟨hI.below hW (Nat.le_refl _), hg.below hW hg.lt⟩
  have HST : Hid (∀ W W', Below w.heap.size w W → Below W.heap.size W W' → Below w.heap.size w W') := fun W W' h1 h2 => h1.trans (h2.mono h1.size)
  have HONE : Hid (∀ W A, IsOps W (.slice (some ⟨A, 0, none⟩) 4 4) lost4 → Calls Tryd.prog 8 #[.slice (some ⟨A, 0, none⟩) 4 4] W fun e w' => e = .returned (.tuple #[.agg #[.bool true, .bool false, .bool true, .bool true], .nilIface]) ∧ Below W.heap.size W w') := fun W A hu => by
    have := hOf lost4 (some ⟨A, 0, none⟩) 4 W hu (Nat.le_refl 4)
    rw [lost4_ills.1, lost4_ills.2] at this
    exact this
  have HER : Hid (∀ W, Below w.heap.size w W → Calls Tryd.prog 9 #[.iface 59 (.int .i64 5), .int .i64 5] W fun e w' => e = .returned (.bool true) ∧ Below W.heap.size W w') := fun W hW => (error_hit 5 5 W (HIE.out W hW).2).mono fun _ _ ⟨he, hw⟩ => ⟨by rw [he]; rfl, hw⟩
  have HOF : Hid (∀ W, Below w.heap.size w W → Calls Tryd.prog 8 #[.slice ad l.length cap] W fun e w' => e = .returned (.tuple #[illsV (illsU l), errV (chk l).2]) ∧ Below W.heap.size W w') := fun W hW => hOf l ad cap W (HIE.out W hW).1 hcap
  have HFI : Hid (∀ W, Below w.heap.size w W → Calls Tryd.prog 10 #[.slice ad l.length cap] W fun e w' => e = .returned (.tuple #[.int .i64 (firstU l).1, errV (firstU l).2]) ∧ Below W.heap.size W w') := fun W hW => hFi l ad cap W (HIE.out W hW).1 hcap
  have HFA : Hid (∀ W, Below w.heap.size w W → Calls Tryd.prog 11 #[.slice ad l.length cap] W fun e w' => e = .returned (.tuple #[illsV (facesU l), errV (chk l).2]) ∧ Below W.heap.size W w') := fun W hW => hFa l ad cap W (HIE.out W hW).1 hcap
  have HCUT : Hid (∀ k, k ≤ l.length → (chk l).2 = 0 → ∃ r c s, ∀ W, Below w.heap.size w W → Calls Tryd.prog 11 #[.slice ad k cap] W fun e w' => e = .returned (.tuple #[.agg #[.bool r, .bool c, .bool s, .bool (rigB (l.take k))], .nilIface]) ∧ Below W.heap.size W w') := fun k hk hc => by
    refine ⟨recB (l.take k), cauB (l.take k), strB (l.take k), fun W hW => ?_⟩
    have hlk : (l.take k).length = k := by rw [List.length_take, Nat.min_eq_left hk]
    have h2 := isOps_cutF (HIE.out W hW).1 hk
    have h1 := hFa (l.take k) ad cap W (by rw [hlk]; exact h2) (by rw [hlk]; omega)
    have hct : (chk (l.take k)).2 = 0 := chk_take hc k
    rw [hlk, hct] at h1
    unfold facesU at h1
    rw [if_neg (by rw [hct]; decide)] at h1
    exact h1
  clear hOf hFi hFa hg hI
  go_enter Tryd.func4, Tryd.ntmps4
  go_wp2_with fail
  obtain ⟨W1, hW1⟩ : ∃ W, W = w.alloc (.cells #[.int .i64 1, .int .i64 1, .int .i64 1, .int .i64 2, .int .i64 2, .int .i64 1, .int .i64 1, .int .i64 2, .int .i64 1, .int .i64 1, .int .i64 3, .int .i64 0] 37) := ⟨_, rfl⟩
  have hon : IsOps W1 (.slice (some ⟨w.heap.size, 0, none⟩) 4 4) lost4 := by rw [hW1]; exact lost4_at w
  rw [← hW1]
  have hb1 : Below w.heap.size w W1 := by rw [hW1]; exact (Below.refl _ w).alloc (Nat.le_refl _) _
  have HB1 := hid_f hb1
  have HON := hid_f hon
  obtain ⟨A, hA⟩ : ∃ A, A = w.heap.size := ⟨_, rfl⟩
  rw [← hA] at HON ⊢
  clear hW1 hon hb1 hA
  refine (HONE.out W1 _ HON.out).mono ?_
  rintro e w2 ⟨rfl, hb2⟩
  have HB2 := hid_f (HST.out _ _ HB1.out hb2)
  clear hb2
  go_upto_region 5 with (fail)
  have HB3 : Hid (Below w.heap.size w (w2.alloc (.cells #[.bool true, .bool false, .bool true, .bool true] 25))) := HST.out _ _ HB2.out ((Below.refl _ w2).alloc (Nat.le_refl _) _)
  obtain ⟨W3, hW3⟩ : ∃ W, W = w2.alloc (.cells #[.bool true, .bool false, .bool true, .bool true] 25) := ⟨_, rfl⟩
  rw [← hW3] at HB3 ⊢
  clear hW3
  by_cases hc : (chk l).2 = 0
  · have hU : illsU l = (anyTo (illW l) l.length, anyTo (illR l) l.length, anyTo (illU l) l.length, lostI l l.length) := by unfold illsU illsR; rw [if_neg (by rw [hc]; decide)]
    have hFU : facesU l = (recB l, cauB l, strB l, rigB l) := by unfold facesU; rw [if_neg (by rw [hc]; decide)]
    have hF : firstU l = if (firstTo l l.length) < 0 then (0, 5) else (firstTo l l.length, 0) := by unfold firstU illsR; rw [if_neg (by rw [hc]; decide)]
    have hop := ((chk_iff l).1 hc).2.1
    have s1 := ills_strict hop
    have s2 := ills_rigor (h := l)
    have s3 : lostI l l.length = true → anyTo (illU l) l.length = true := lost_unrep hc
    have s4 := first_spec l l.length
    have s5 := rig_any l
    rw [hU, hc] at HOF
    rw [hFU, hc] at HFA
    rw [hF] at HFI
    have HCU2 : Hid (∀ k, k ≤ l.length → ∃ r c s, ∀ W, Below w.heap.size w W → Calls Tryd.prog 11 #[.slice ad k cap] W fun e w' => e = .returned (.tuple #[.agg #[.bool r, .bool c, .bool s, .bool (rigB (l.take k))], .nilIface]) ∧ Below W.heap.size W w') := fun k hk => HCUT.out k hk hc
    have HRF : Hid (∀ k : Nat, k < l.length → illAt l k = true → (∀ i, i < k → illAt l i = false) → rigB (l.take k) = true ∧ rigB (l.take (k + 1)) = false) := fun k hk h1 h2 => rig_first hk h1 h2
    obtain ⟨n, hn⟩ : ∃ n, l.length = n := ⟨_, rfl⟩
    have hn40 : n ≤ 40 := by rw [← hn]; exact chk_len hc
    rw [hn] at HOF HFA HFI HCU2 HRF s1 s2 s3 s4 s5 hcap ⊢
    obtain ⟨x0, hx0⟩ : ∃ x, anyTo (illW l) n = x := ⟨_, rfl⟩
    obtain ⟨x1, hx1⟩ : ∃ x, anyTo (illR l) n = x := ⟨_, rfl⟩
    obtain ⟨x2, hx2⟩ : ∃ x, anyTo (illU l) n = x := ⟨_, rfl⟩
    obtain ⟨x3, hx3⟩ : ∃ x, lostI l n = x := ⟨_, rfl⟩
    obtain ⟨r0, hr0⟩ : ∃ x, recB l = x := ⟨_, rfl⟩
    obtain ⟨r1, hr1⟩ : ∃ x, cauB l = x := ⟨_, rfl⟩
    obtain ⟨fs, hfs⟩ : ∃ x, strB l = x := ⟨_, rfl⟩
    obtain ⟨fr, hfr⟩ : ∃ x, rigB l = x := ⟨_, rfl⟩
    rw [hx0, hx1, hx2, hx3] at HOF
    rw [hr0, hr1, hfs, hfr] at HFA
    rw [hfs, hx0, hx1] at s1
    rw [hfr, hfs, hx2] at s2
    rw [hx3, hx2] at s3
    rw [hfr] at s5
    have HO2 : Hid (∀ W, Below w.heap.size w W → Calls Tryd.prog 8 #[.slice ad n cap] W fun e w' => e = .returned (.tuple #[.agg #[.bool x0, .bool x1, .bool x2, .bool x3], .nilIface]) ∧ Below W.heap.size W w') := HOF.out
    have HA2 : Hid (∀ W, Below w.heap.size w W → Calls Tryd.prog 11 #[.slice ad n cap] W fun e w' => e = .returned (.tuple #[.agg #[.bool r0, .bool r1, .bool fs, .bool fr], .nilIface]) ∧ Below W.heap.size W w') := HFA.out
    have HT1 : Hid (fs = (!x0 && !x1) ∧ fr = (fs && !x2) ∧ (x3 = true → x2 = true)) := ⟨s1, s2, s3⟩
    have HSP := hid_f s4
    have HS5 := hid_f s5
    clear hU hFU hF hop s1 s2 s3 s4 s5 hc hn hx0 hx1 hx2 hx3 hr0 hr1 hfs hfr HOF HFA HCUT HONE HON
    go_wp2_with fail
    refine (HO2.out W3 HB3.out).mono ?_
    rintro e w4 ⟨rfl, hb4⟩
    have HB4 := hid_f (HST.out _ _ HB3.out hb4)
    clear hb4
    go_upto_region 6 with (fail)
    obtain ⟨W5, hW5⟩ : ∃ W, W = w4.alloc (.cells #[.bool x0, .bool x1, .bool x2, .bool x3] 25) := ⟨_, rfl⟩
    rw [← hW5]
    have hbn : Below w4.heap.size w4 W5 := by rw [hW5]; exact (Below.refl _ w4).alloc (Nat.le_refl _) _
    have HX5 : Hid (IlBox W5 w4.heap.size (x0, x1, x2, x3)) := by show IlBox _ _ _; rw [hW5]; exact ilBox_new _ _ _ _ _ _
    have HB5 := hid_f (HST.out _ _ HB4.out hbn)
    obtain ⟨P, hP⟩ : ∃ P, P = w4.heap.size := ⟨_, rfl⟩
    rw [← hP] at HX5 ⊢
    clear hW5 hbn hP
    go_wp2_with fail
    refine (HA2.out W5 HB5.out).mono ?_
    rintro e w6 ⟨rfl, hb6⟩
    have HX6 := hid_f (HX5.out.below hb6)
    have HB6 := hid_f (HST.out _ _ HB5.out hb6)
    clear hb6
    go_upto_region 7 with (fail)
    obtain ⟨W7, hW7⟩ : ∃ W, W = w6.alloc (.cells #[.bool r0, .bool r1, .bool fs, .bool fr] 39) := ⟨_, rfl⟩
    rw [← hW7]
    have hbn : Below w6.heap.size w6 W7 := by rw [hW7]; exact (Below.refl _ w6).alloc (Nat.le_refl _) _
    have HX7 := hid_f (HX6.out.below hbn)
    have HF7 : Hid (IlBox W7 w6.heap.size (r0, r1, fs, fr)) := by show IlBox _ _ _; rw [hW7]; exact ilBox_new _ _ _ _ _ _
    have HB7 := hid_f (HST.out _ _ HB6.out hbn)
    obtain ⟨Q, hQ⟩ : ∃ Q, Q = w6.heap.size := ⟨_, rfl⟩
    rw [← hQ] at HF7 ⊢
    clear hW7 hbn hQ
    obtain ⟨c0, c1, c2, c3⟩ := HX7.out
    obtain ⟨d0, d1, d2, d3⟩ := HF7.out
    simp only at c0 c1 c2 c3 d0 d1 d2 d3
    obtain ⟨t1, t2, t3⟩ := HT1.out
    go_upto_region 9 with (fail)
    rcases HSP.out with ⟨hf, hno⟩ | ⟨k, hf, hk, hill, hbef⟩
    · have hfr : fr = true := by rw [HS5.out, anyTo_not.2 hno]; rfl
      rw [hf, if_pos (by decide)] at HFI
      have HF5 : Hid (∀ W, Below w.heap.size w W → Calls Tryd.prog 10 #[.slice ad n cap] W fun e w' => e = .returned (.tuple #[.int .i64 0, .iface 59 (.int .i64 5)]) ∧ Below W.heap.size W w') := HFI.out
      rw [hfr] at t2
      have hfs : fs = true := by cases fs with | true => rfl | false => cases t2
      have hx2 : x2 = false := by rw [hfs] at t2; cases x2 with | true => cases t2 | false => rfl
      rw [hfs] at t1
      have hx0 : x0 = false := by cases x0 with | true => cases t1 | false => rfl
      have hx1 : x1 = false := by cases x1 with | true => (rw [hx0] at t1; cases t1) | false => rfl
      have hx3 : x3 = false := by cases x3 with | true => (have := t3 rfl; rw [hx2] at this; cases this) | false => rfl
      subst hx0 hx1 hx2 hx3 hfs hfr
      clear t1 t2 t3 HT1 HSP HS5 hf hno HFI
      go_wp2_with fail
      refine (HF5.out W7 HB7.out).mono ?_
      rintro e w8 ⟨rfl, hb8⟩
      have HB8 := hid_f (HST.out _ _ HB7.out hb8)
      have m3 := (HF7.out.below hb8).2.2.2
      simp only at m3
      clear hb8 c0 c1 c2 c3 d0 d1 d2 d3
      go_wp2_with fail
      refine (HER.out w8 HB8.out).mono ?_
      rintro e w9 ⟨rfl, hb9⟩
      have HB9 := hid_f (HST.out _ _ HB8.out hb9)
      clear hb9 m3
      go_wp2_with fail
      go_ret
      exact ⟨rfl, HB9.out⟩
    · have hfr : fr = false := by rw [HS5.out, anyTo_iff.2 ⟨k, hk, hill⟩]; rfl
      rw [hf, if_neg (by omega)] at HFI
      have HF5 : Hid (∀ W, Below w.heap.size w W → Calls Tryd.prog 10 #[.slice ad n cap] W fun e w' => e = .returned (.tuple #[.int .i64 (k : Int), .nilIface]) ∧ Below W.heap.size W w') := HFI.out
      obtain ⟨g1, g2⟩ := HRF.out k hk hill hbef
      obtain ⟨u1, u2, u3, hcall1⟩ := HCU2.out k (by omega)
      obtain ⟨v1, v2, v3, hcall2⟩ := HCU2.out (k + 1) (by omega)
      rw [g1] at hcall1
      rw [g2] at hcall2
      have HC1 := hid_f hcall1
      have HC2 := hid_f hcall2
      have hkn : (k : Int) < (n : Int) := by omega
      have hk0 : (0 : Int) ≤ (k : Int) := by omega
      have hkm : ¬ (k : Int) < 0 := by omega
      have hkg : ¬ (n : Int) ≤ (k : Int) := by omega
      have hs1 : ∀ W : World, (Instr.sliceAt 22 (.slice ad n cap) none (some (.int .i64 (k : Int))) none).run Tryd.prog W = .ok (.slice ad k cap) W := cut_run (by omega)
      have hs2 : ∀ W : World, (Instr.sliceAt 22 (.slice ad n cap) none (some (.int .i64 ((k : Int) + 1))) none).run Tryd.prog W = .ok (.slice ad (k + 1) cap) W := cut_run (k := k + 1) (by omega)
      have hwr : IntKind.i64.wrap ((k : Int) + 1) = (k : Int) + 1 := by rw [IntKind.wrap_i64]; omega
      subst hfr
      clear HSP HS5 hf hill hbef HFI g1 g2 hcall1 hcall2 HCU2 HRF HER
      cases x0 with
      | true =>
        obtain rfl : fs = false := t1
        cases x3 with
        | true =>
          obtain rfl : x2 = true := t3 rfl
          clear t2 t3 HT1
          go_wp2_with fail
          refine (HF5.out W7 HB7.out).mono ?_
          rintro e w8 ⟨rfl, hb8⟩
          have HB8 := hid_f (HST.out _ _ HB7.out hb8)
          have m3 := (HF7.out.below hb8).2.2.2
          simp only at m3
          clear hb8 c0 c1 c2 c3 d0 d1 d2 d3
          go_wp2_with fail
          refine (HC1.out w8 HB8.out).mono ?_
          rintro e w9 ⟨rfl, hb9⟩
          have HB9 := hid_f (HST.out _ _ HB8.out hb9)
          clear hb9 m3
          go_upto_region 17 with (fail)
          obtain ⟨W10, hW10⟩ : ∃ W, W = w9.alloc (.cells #[.bool u1, .bool u2, .bool u3, .bool true] 39) := ⟨_, rfl⟩
          rw [← hW10]
          have hbn : Below w9.heap.size w9 W10 := by rw [hW10]; exact (Below.refl _ w9).alloc (Nat.le_refl _) _
          have HX10 : Hid (IlBox W10 w9.heap.size (u1, u2, u3, true)) := by show IlBox _ _ _; rw [hW10]; exact ilBox_new _ _ _ _ _ _
          have HB10 := hid_f (HST.out _ _ HB9.out hbn)
          obtain ⟨R, hR⟩ : ∃ R, R = w9.heap.size := ⟨_, rfl⟩
          rw [← hR] at HX10 ⊢
          clear hW10 hbn hR
          go_wp2_with fail
          refine (HC2.out W10 HB10.out).mono ?_
          rintro e w11 ⟨rfl, hb11⟩
          have HB11 := hid_f (HST.out _ _ HB10.out hb11)
          have m4 := (HX10.out.below hb11).2.2.2
          simp only at m4
          have hRl := World.block_lt_of_cell? w11 _ m4
          simp only at hRl
          have HB12 : Hid (∀ ob : Obj, Below w.heap.size w (w11.alloc ob)) := fun ob => HST.out _ _ HB11.out ((Below.refl _ w11).alloc (Nat.le_refl _) ob)
          clear hb11
          go_wp2_with fail
          go_ret
          exact ⟨rfl, HB12.out _⟩
        | false =>
          clear t2 t3 HT1
          go_wp2_with fail
          refine (HF5.out W7 HB7.out).mono ?_
          rintro e w8 ⟨rfl, hb8⟩
          have HB8 := hid_f (HST.out _ _ HB7.out hb8)
          have m3 := (HF7.out.below hb8).2.2.2
          simp only at m3
          clear hb8 c0 c1 c2 c3 d0 d1 d2 d3
          go_wp2_with fail
          refine (HC1.out w8 HB8.out).mono ?_
          rintro e w9 ⟨rfl, hb9⟩
          have HB9 := hid_f (HST.out _ _ HB8.out hb9)
          clear hb9 m3
          go_upto_region 17 with (fail)
          obtain ⟨W10, hW10⟩ : ∃ W, W = w9.alloc (.cells #[.bool u1, .bool u2, .bool u3, .bool true] 39) := ⟨_, rfl⟩
          rw [← hW10]
          have hbn : Below w9.heap.size w9 W10 := by rw [hW10]; exact (Below.refl _ w9).alloc (Nat.le_refl _) _
          have HX10 : Hid (IlBox W10 w9.heap.size (u1, u2, u3, true)) := by show IlBox _ _ _; rw [hW10]; exact ilBox_new _ _ _ _ _ _
          have HB10 := hid_f (HST.out _ _ HB9.out hbn)
          obtain ⟨R, hR⟩ : ∃ R, R = w9.heap.size := ⟨_, rfl⟩
          rw [← hR] at HX10 ⊢
          clear hW10 hbn hR
          go_wp2_with fail
          refine (HC2.out W10 HB10.out).mono ?_
          rintro e w11 ⟨rfl, hb11⟩
          have HB11 := hid_f (HST.out _ _ HB10.out hb11)
          have m4 := (HX10.out.below hb11).2.2.2
          simp only at m4
          have hRl := World.block_lt_of_cell? w11 _ m4
          simp only at hRl
          have HB12 : Hid (∀ ob : Obj, Below w.heap.size w (w11.alloc ob)) := fun ob => HST.out _ _ HB11.out ((Below.refl _ w11).alloc (Nat.le_refl _) ob)
          clear hb11
          go_wp2_with fail
          go_ret
          exact ⟨rfl, HB12.out _⟩
      | false =>
        cases x1 with
        | true =>
          obtain rfl : fs = false := t1
          cases x3 with
          | true =>
            obtain rfl : x2 = true := t3 rfl
            clear t2 t3 HT1
            go_wp2_with fail
            refine (HF5.out W7 HB7.out).mono ?_
            rintro e w8 ⟨rfl, hb8⟩
            have HB8 := hid_f (HST.out _ _ HB7.out hb8)
            have m3 := (HF7.out.below hb8).2.2.2
            simp only at m3
            clear hb8 c0 c1 c2 c3 d0 d1 d2 d3
            go_wp2_with fail
            refine (HC1.out w8 HB8.out).mono ?_
            rintro e w9 ⟨rfl, hb9⟩
            have HB9 := hid_f (HST.out _ _ HB8.out hb9)
            clear hb9 m3
            go_upto_region 17 with (fail)
            obtain ⟨W10, hW10⟩ : ∃ W, W = w9.alloc (.cells #[.bool u1, .bool u2, .bool u3, .bool true] 39) := ⟨_, rfl⟩
            rw [← hW10]
            have hbn : Below w9.heap.size w9 W10 := by rw [hW10]; exact (Below.refl _ w9).alloc (Nat.le_refl _) _
            have HX10 : Hid (IlBox W10 w9.heap.size (u1, u2, u3, true)) := by show IlBox _ _ _; rw [hW10]; exact ilBox_new _ _ _ _ _ _
            have HB10 := hid_f (HST.out _ _ HB9.out hbn)
            obtain ⟨R, hR⟩ : ∃ R, R = w9.heap.size := ⟨_, rfl⟩
            rw [← hR] at HX10 ⊢
            clear hW10 hbn hR
            go_wp2_with fail
            refine (HC2.out W10 HB10.out).mono ?_
            rintro e w11 ⟨rfl, hb11⟩
            have HB11 := hid_f (HST.out _ _ HB10.out hb11)
            have m4 := (HX10.out.below hb11).2.2.2
            simp only at m4
            have hRl := World.block_lt_of_cell? w11 _ m4
            simp only at hRl
            have HB12 : Hid (∀ ob : Obj, Below w.heap.size w (w11.alloc ob)) := fun ob => HST.out _ _ HB11.out ((Below.refl _ w11).alloc (Nat.le_refl _) ob)
            clear hb11
            go_wp2_with fail
            go_ret
            exact ⟨rfl, HB12.out _⟩
          | false =>
            clear t2 t3 HT1
            go_wp2_with fail
            refine (HF5.out W7 HB7.out).mono ?_
            rintro e w8 ⟨rfl, hb8⟩
            have HB8 := hid_f (HST.out _ _ HB7.out hb8)
            have m3 := (HF7.out.below hb8).2.2.2
            simp only at m3
            clear hb8 c0 c1 c2 c3 d0 d1 d2 d3
            go_wp2_with fail
            refine (HC1.out w8 HB8.out).mono ?_
            rintro e w9 ⟨rfl, hb9⟩
            have HB9 := hid_f (HST.out _ _ HB8.out hb9)
            clear hb9 m3
            go_upto_region 17 with (fail)
            obtain ⟨W10, hW10⟩ : ∃ W, W = w9.alloc (.cells #[.bool u1, .bool u2, .bool u3, .bool true] 39) := ⟨_, rfl⟩
            rw [← hW10]
            have hbn : Below w9.heap.size w9 W10 := by rw [hW10]; exact (Below.refl _ w9).alloc (Nat.le_refl _) _
            have HX10 : Hid (IlBox W10 w9.heap.size (u1, u2, u3, true)) := by show IlBox _ _ _; rw [hW10]; exact ilBox_new _ _ _ _ _ _
            have HB10 := hid_f (HST.out _ _ HB9.out hbn)
            obtain ⟨R, hR⟩ : ∃ R, R = w9.heap.size := ⟨_, rfl⟩
            rw [← hR] at HX10 ⊢
            clear hW10 hbn hR
            go_wp2_with fail
            refine (HC2.out W10 HB10.out).mono ?_
            rintro e w11 ⟨rfl, hb11⟩
            have HB11 := hid_f (HST.out _ _ HB10.out hb11)
            have m4 := (HX10.out.below hb11).2.2.2
            simp only at m4
            have hRl := World.block_lt_of_cell? w11 _ m4
            simp only at hRl
            have HB12 : Hid (∀ ob : Obj, Below w.heap.size w (w11.alloc ob)) := fun ob => HST.out _ _ HB11.out ((Below.refl _ w11).alloc (Nat.le_refl _) ob)
            clear hb11
            go_wp2_with fail
            go_ret
            exact ⟨rfl, HB12.out _⟩
        | false =>
          obtain rfl : fs = true := t1
          cases x2 with
          | true =>
            cases x3 with
            | true =>
              clear t2 t3 HT1
              go_wp2_with fail
              refine (HF5.out W7 HB7.out).mono ?_
              rintro e w8 ⟨rfl, hb8⟩
              have HB8 := hid_f (HST.out _ _ HB7.out hb8)
              have m3 := (HF7.out.below hb8).2.2.2
              simp only at m3
              clear hb8 c0 c1 c2 c3 d0 d1 d2 d3
              go_wp2_with fail
              refine (HC1.out w8 HB8.out).mono ?_
              rintro e w9 ⟨rfl, hb9⟩
              have HB9 := hid_f (HST.out _ _ HB8.out hb9)
              clear hb9 m3
              go_upto_region 17 with (fail)
              obtain ⟨W10, hW10⟩ : ∃ W, W = w9.alloc (.cells #[.bool u1, .bool u2, .bool u3, .bool true] 39) := ⟨_, rfl⟩
              rw [← hW10]
              have hbn : Below w9.heap.size w9 W10 := by rw [hW10]; exact (Below.refl _ w9).alloc (Nat.le_refl _) _
              have HX10 : Hid (IlBox W10 w9.heap.size (u1, u2, u3, true)) := by show IlBox _ _ _; rw [hW10]; exact ilBox_new _ _ _ _ _ _
              have HB10 := hid_f (HST.out _ _ HB9.out hbn)
              obtain ⟨R, hR⟩ : ∃ R, R = w9.heap.size := ⟨_, rfl⟩
              rw [← hR] at HX10 ⊢
              clear hW10 hbn hR
              go_wp2_with fail
              refine (HC2.out W10 HB10.out).mono ?_
              rintro e w11 ⟨rfl, hb11⟩
              have HB11 := hid_f (HST.out _ _ HB10.out hb11)
              have m4 := (HX10.out.below hb11).2.2.2
              simp only at m4
              have hRl := World.block_lt_of_cell? w11 _ m4
              simp only at hRl
              have HB12 : Hid (∀ ob : Obj, Below w.heap.size w (w11.alloc ob)) := fun ob => HST.out _ _ HB11.out ((Below.refl _ w11).alloc (Nat.le_refl _) ob)
              clear hb11
              go_wp2_with fail
              go_ret
              exact ⟨rfl, HB12.out _⟩
            | false =>
              clear t2 t3 HT1
              go_wp2_with fail
              refine (HF5.out W7 HB7.out).mono ?_
              rintro e w8 ⟨rfl, hb8⟩
              have HB8 := hid_f (HST.out _ _ HB7.out hb8)
              have m3 := (HF7.out.below hb8).2.2.2
              simp only at m3
              clear hb8 c0 c1 c2 c3 d0 d1 d2 d3
              go_wp2_with fail
              refine (HC1.out w8 HB8.out).mono ?_
              rintro e w9 ⟨rfl, hb9⟩
              have HB9 := hid_f (HST.out _ _ HB8.out hb9)
              clear hb9 m3
              go_upto_region 17 with (fail)
              obtain ⟨W10, hW10⟩ : ∃ W, W = w9.alloc (.cells #[.bool u1, .bool u2, .bool u3, .bool true] 39) := ⟨_, rfl⟩
              rw [← hW10]
              have hbn : Below w9.heap.size w9 W10 := by rw [hW10]; exact (Below.refl _ w9).alloc (Nat.le_refl _) _
              have HX10 : Hid (IlBox W10 w9.heap.size (u1, u2, u3, true)) := by show IlBox _ _ _; rw [hW10]; exact ilBox_new _ _ _ _ _ _
              have HB10 := hid_f (HST.out _ _ HB9.out hbn)
              obtain ⟨R, hR⟩ : ∃ R, R = w9.heap.size := ⟨_, rfl⟩
              rw [← hR] at HX10 ⊢
              clear hW10 hbn hR
              go_wp2_with fail
              refine (HC2.out W10 HB10.out).mono ?_
              rintro e w11 ⟨rfl, hb11⟩
              have HB11 := hid_f (HST.out _ _ HB10.out hb11)
              have m4 := (HX10.out.below hb11).2.2.2
              simp only at m4
              have hRl := World.block_lt_of_cell? w11 _ m4
              simp only at hRl
              have HB12 : Hid (∀ ob : Obj, Below w.heap.size w (w11.alloc ob)) := fun ob => HST.out _ _ HB11.out ((Below.refl _ w11).alloc (Nat.le_refl _) ob)
              clear hb11
              go_wp2_with fail
              go_ret
              exact ⟨rfl, HB12.out _⟩
          | false => cases t2
  · have e0 : errV (chk l).2 = .iface 59 (.int .i64 (chk l).2) := by unfold errV; rw [if_neg hc]
    have hU : illsU l = (false, false, false, false) := by unfold illsU; rw [if_pos hc]
    have hFU : facesU l = (false, false, false, false) := by unfold facesU; rw [if_pos hc]
    rw [hU, e0] at HOF
    rw [hFU, e0] at HFA
    obtain ⟨ce, hce⟩ : ∃ c, (chk l).2 = c := ⟨_, rfl⟩
    rw [hce] at HOF HFA
    have HO2 : Hid (∀ W, Below w.heap.size w W → Calls Tryd.prog 8 #[.slice ad l.length cap] W fun e w' => e = .returned (.tuple #[.agg #[.bool false, .bool false, .bool false, .bool false], .iface 59 (.int .i64 ce)]) ∧ Below W.heap.size W w') := HOF.out
    have HA2 : Hid (∀ W, Below w.heap.size w W → Calls Tryd.prog 11 #[.slice ad l.length cap] W fun e w' => e = .returned (.tuple #[.agg #[.bool false, .bool false, .bool false, .bool false], .iface 59 (.int .i64 ce)]) ∧ Below W.heap.size W w') := HFA.out
    clear e0 hU hFU hce hc HOF HFA HCUT HFI HONE HON
    go_wp2_with fail
    refine (HO2.out W3 HB3.out).mono ?_
    rintro e w4 ⟨rfl, hb4⟩
    have HB4 := hid_f (HST.out _ _ HB3.out hb4)
    clear hb4
    go_wp2_with fail
    refine (HA2.out _ (HST.out _ _ HB4.out ((Below.refl _ w4).alloc (Nat.le_refl _) _))).mono ?_
    rintro e w6 ⟨rfl, hb6⟩
    have HB6 := hid_f (HST.out _ _ (HST.out _ _ HB4.out ((Below.refl _ w4).alloc (Nat.le_refl _) _)) hb6)
    have HB7 : Hid (∀ ob : Obj, Below w.heap.size w (w6.alloc ob)) := fun ob => HST.out _ _ HB6.out ((Below.refl _ w6).alloc (Nat.le_refl _) ob)
    clear hb6
    go_wp2_with fail
    go_ret
    exact ⟨rfl, HB7.out _⟩
end Go.Proofs.YtjcaekhkeobhpahDoor
