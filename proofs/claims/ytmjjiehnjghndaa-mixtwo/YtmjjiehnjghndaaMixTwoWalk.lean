/-
  PROVED HERE: lanelaw4.MixTwo answers true, of any two numbers, over whatever keeps MCountC and MGoodC.
  Conditions: these.
-/
import Derived.Test.YtmjjiehnjghndaaMixAsk
import Derived.WalkKit
import Derived.WalkSpells
import Derived.Handy
import Derived.Laws.AppendOwn
import Derived.Deep.Cut
namespace Go.Proofs.Ytmjjiehnjghndaa
open Go.RowKit

/-- Two deals that only read. -/
def twoR (n m : Nat) : List Op3 := List.replicate n (1, 1, 1) ++ List.replicate m (2, 1, 1)
/-- As many as to choose, as the law reckons it. -/
def wantI (m : Int) : Nat → Int
  | 0 => 1
  | k + 1 => Int.tdiv (wantI m k * (m + ((k : Int) + 1))) ((k : Int) + 1)
set_option maxRecDepth 100000 in
theorem two_all : ∀ n, n < 9 → ∀ m, m < 9 - n → mixE (twoR n m) = 0 ∧ ((mixM (twoR n m)).length : Int) = wantI m n ∧ (goodN (twoR n m) : Int) = wantI m n := by decide +kernel
set_option maxRecDepth 100000 in
theorem want_small : ∀ n, n < 9 → ∀ m : Nat, m < 9 - n → 0 ≤ wantI m n ∧ wantI m n ≤ 100 := by decide +kernel
set_option maxHeartbeats 16000000 in
set_option maxRecDepth 100000 in
theorem mtwo_any (hC : MCountC) (hG : MGoodC) (n m : Int) (w : World) :
    Calls Try.prog 4 #[.int .i64 n, .int .i64 m] w fun e w' => e = .returned (.bool true) ∧ Below w.heap.size w w' := by
  by_cases hn0 : n < 0
  · go_enter Try.func4, Try.ntmps4
    go_wp2_with fail
    go_ret
    exact ⟨rfl, Below.refl _ _⟩
  by_cases hm0 : m < 0
  · go_enter Try.func4, Try.ntmps4
    go_wp2_with fail
    go_ret
    exact ⟨rfl, Below.refl _ _⟩
  by_cases hn8 : 8 < n
  · go_enter Try.func4, Try.ntmps4
    go_wp2_with fail
    go_ret
    exact ⟨rfl, Below.refl _ _⟩
  have hwr : IntKind.i64.wrap (8 - n) = 8 - n := by rw [IntKind.wrap_i64]; omega
  by_cases hm8 : 8 - n < m
  · go_enter Try.func4, Try.ntmps4
    go_wp2_with fail
    go_ret
    exact ⟨rfl, Below.refl _ _⟩
  obtain ⟨i0, hi, hz0, hs0, hy0⟩ := info_parts infoOp
  have HI : Hid (Try.prog.info? 24 = some i0 ∧ i0.zero = some (.agg #[.int .i64 0, .int .i64 0, .int .i64 0]) ∧ i0.size = 3 ∧ i0.bytes = 24) := ⟨hi, hz0, hs0, hy0⟩
  clear hi hz0 hs0 hy0
  obtain ⟨nn, rfl⟩ : ∃ k : Nat, n = (k : Int) := ⟨n.toNat, by omega⟩
  obtain ⟨mm, rfl⟩ : ∃ k : Nat, m = (k : Int) := ⟨m.toNat, by omega⟩
  have hnn : nn ≤ 8 := by omega
  have hmm : mm ≤ 8 - nn := by omega
  have HTW := hid_m (two_all nn (by omega) mm (by omega))
  have HWS : Hid (∀ k : Nat, k ≤ nn → 0 ≤ wantI mm k ∧ wantI mm k ≤ 100) := fun k hk => want_small k (by omega) mm (by omega)
  have HCC := hid_m hC
  have HGG := hid_m hG
  clear hC hG
  go_enter Try.func4, Try.ntmps4
  go_wp2_with fail
  go_loopw [5, 6] (fun v5 v6 wr => ∃ k : Nat, k ≤ nn ∧ v6 = .int .i64 k ∧ wr.ownsRow w.heap.size 24 3 v5 k (flat (List.replicate k (1, 1, 1))) ∧ Below w.heap.size w wr) (fun _ v6 _ => nn - (intOf v6).toNat)
  case atStart => exact ⟨0, Nat.zero_le _, rfl, World.ownsRow_nil _ _ _ _, Below.refl _ _⟩
  case round =>
    obtain ⟨k, hk, rfl, hown, hbel⟩ := hrel
    have HOWN := hid_m hown
    have hsz := hbel.size
    clear hown
    by_cases hlt : k < nn
    · have hlt' : (k : Int) < (nn : Int) := by omega
      go_wp2_with (at_builtin; refine wpList_append_own _ rfl (.tmp 35) (.tmp 37) 22 rfl w.heap.size 24 i0 (.agg #[.int .i64 0, .int .i64 0, .int .i64 0]) 3 24 Try.underlying22 HI.out.1 HI.out.2.1 HI.out.2.2.1 HI.out.2.2.2 rfl (by decide) u5 k (flat (List.replicate k (1, 1, 1))) rfl (HOWN.out.alloc _) ⟨wr.heap.size, 0, none⟩ 1 1 (flat [(1, 1, 1)]) rfl rfl (one_at wr 1 1 1) (flat_one _) (by unfold maxLen; omega) (by omega) (by simp; omega) ?_; intro v1 w1 hown1 hgr1 hnil1)
      have hB1 := (hbel.alloc hsz _).grown hgr1 (by simp; omega) (fun m hm => (HOWN.out.lt m hm).1)
      go_roundw
      case rel => exact ⟨k + 1, by omega, by go_num, by rw [List.replicate_succ', flat_append]; exact hown1, hB1⟩
      case measure => simp [intOf]; omega
    · obtain rfl : k = nn := by omega
      have hlt' : ¬ (k : Int) < (k : Int) := by omega
      have HB1 := hid_m hbel
      clear hbel
      go_wp2_with fail
      go_loopw [5, 7] (fun v5 v7 wr2 => ∃ j : Nat, j ≤ mm ∧ v7 = .int .i64 j ∧ wr2.ownsRow w.heap.size 24 3 v5 (k + j) (flat (twoR k j)) ∧ Below w.heap.size w wr2) (fun _ v7 _ => mm - (intOf v7).toNat)
      case atStart => exact ⟨0, Nat.zero_le _, rfl, by unfold twoR; simpa using HOWN.out, HB1.out⟩
      case round =>
        clear HOWN HB1
        obtain ⟨j, hj, rfl, hown, hbel⟩ := hrel
        have HOWN := hid_m hown
        have hsz2 := hbel.size
        clear hown
        by_cases hjt : j < mm
        · have hjt' : (j : Int) < (mm : Int) := by omega
          go_wp2_with (at_builtin; refine wpList_append_own _ rfl (.tmp 44) (.tmp 46) 22 rfl w.heap.size 24 i0 (.agg #[.int .i64 0, .int .i64 0, .int .i64 0]) 3 24 Try.underlying22 HI.out.1 HI.out.2.1 HI.out.2.2.1 HI.out.2.2.2 rfl (by decide) _ (k + j) (flat (twoR k j)) rfl (HOWN.out.alloc _) ⟨wr.heap.size, 0, none⟩ 1 1 (flat [(2, 1, 1)]) rfl rfl (one_at wr 2 1 1) (flat_one _) (by unfold maxLen; omega) (by omega) (by simp; omega) ?_; intro v1 w1 hown1 hgr1 hnil1)
          have hB1 := (hbel.alloc hsz2 _).grown hgr1 (by simp; omega) (fun m hm => (HOWN.out.lt m hm).1)
          go_roundw
          case rel => exact ⟨j + 1, by omega, by go_num, by rw [show twoR k (j + 1) = twoR k j ++ [(2, 1, 1)] by unfold twoR; rw [List.replicate_succ', List.append_assoc], flat_append]; exact hown1, hB1⟩
          case measure => simp [intOf]; omega
        · obtain rfl : j = mm := by omega
          have hjt' : ¬ (j : Int) < (j : Int) := by omega
          have HB2 := hid_m hbel
          clear hbel
          go_wp2_with fail
          go_loopw [8, 9] (fun v8 v9 V => ∃ i : Nat, i ≤ k ∧ v9 = .int .i64 ((i : Int) + 1) ∧ v8 = .int .i64 (wantI j i) ∧ Below wr.heap.size wr V) (fun _ v9 _ => k + 1 - (intOf v9).toNat)
          case atStart => exact ⟨0, Nat.zero_le _, rfl, rfl, Below.refl _ _⟩
          case round =>
            obtain ⟨i, hi, rfl, rfl, hbel⟩ := hrel
            by_cases hit : i < k
            · have hit' : (i : Int) + 1 ≤ (k : Int) := by omega
              obtain ⟨s1, s2⟩ := HWS.out i (by omega)
              obtain ⟨t1, t2⟩ := HWS.out (i + 1) (by omega)
              have HWN : Hid (wantI (j : Int) (i + 1) = Int.tdiv (wantI (j : Int) i * ((j : Int) + ((i : Int) + 1))) ((i : Int) + 1)) := rfl
              obtain ⟨x, hx⟩ : ∃ x, wantI (j : Int) i = x := ⟨_, rfl⟩
              rw [hx] at s1 s2 HWN
              rw [HWN.out] at t1 t2
              have hz : (((i : Int) + 1) == 0) = false := beq_eq_false_iff_ne.2 (by omega)
              have hpr : 0 ≤ x * ((j : Int) + ((i : Int) + 1)) ∧ x * ((j : Int) + ((i : Int) + 1)) ≤ 1700 := ⟨Int.mul_nonneg s1 (by omega), Int.le_trans (Int.mul_le_mul_of_nonneg_right s2 (by omega)) (by omega)⟩
              have hw1 : IntKind.i64.wrap ((j : Int) + ((i : Int) + 1)) = (j : Int) + ((i : Int) + 1) := by rw [IntKind.wrap_i64]; omega
              have hw2 : IntKind.i64.wrap (x * ((j : Int) + ((i : Int) + 1))) = x * ((j : Int) + ((i : Int) + 1)) := by rw [IntKind.wrap_i64]; omega
              rw [hx]
              go_wp2_with fail
              go_roundw
              case rel => exact ⟨i + 1, by omega, by go_num, by first | (rw [HWN.out]; done) | (rw [HWN.out]; rfl) | (rw [HWN.out]; go_num), hbel⟩
              case measure => simp [intOf]; omega
            · obtain rfl : i = k := by omega
              have hit' : ¬ (i : Int) + 1 ≤ (i : Int) := by omega
              have hO := isOps_own HOWN.out (by unfold twoR; simp)
              obtain ⟨had, hcap0, hv, hcapL⟩ : ∃ ad cap, u5 = .slice ad (twoR i j).length cap ∧ (twoR i j).length ≤ cap := by
                have hlen : (twoR i j).length = i + j := by unfold twoR; simp
                rw [hlen]
                obtain ⟨_, ⟨hv, hz⟩ | ⟨g, cap, cur, hv, _, _, hn, _⟩⟩ := HOWN.out
                · exact ⟨none, 0, by rw [hv, hz], by omega⟩
                · exact ⟨_, cap, hv, hn⟩
              obtain ⟨t0, t1, t2⟩ := HTW.out
              have HO : Hid (∀ V, Below wr.heap.size wr V → IsOps V (.slice had (twoR i j).length hcap0) (twoR i j)) := fun V hV => by rw [← hv]; exact hO.below (hbel.trans (hV.mono hbel.size)) (Nat.le_refl _)
              have HC1 : Hid (∀ V, Below wr.heap.size wr V → Calls Try.prog 5 #[.slice had (twoR i j).length hcap0] V fun e w' => e = .returned (.tuple #[.int .i64 (wantI j i), .nilIface]) ∧ Below V.heap.size V w') := fun V hV => by
                have h := HCC.out (twoR i j) had hcap0 V (HO.out V hV) hcapL
                rw [t0, t1] at h
                exact h
              have HC2 : Hid (∀ V, Below wr.heap.size wr V → Calls Try.prog 6 #[.slice had (twoR i j).length hcap0] V fun e w' => e = .returned (.tuple #[.int .i64 (wantI j i), .nilIface]) ∧ Below V.heap.size V w') := fun V hV => by
                have h := HGG.out (twoR i j) had hcap0 V (HO.out V hV) hcapL
                rw [t0, t2] at h
                exact h
              have HBW := hid_m (HB2.out.trans (hbel.mono HB2.out.size))
              subst hv
              obtain ⟨x, hx⟩ : ∃ x, wantI (j : Int) i = x := ⟨_, rfl⟩
              obtain ⟨ln, hln⟩ : ∃ n, (twoR i j).length = n := ⟨_, rfl⟩
              rw [hx] at HC1 HC2 ⊢
              rw [hln] at HC1 HC2 ⊢
              clear t0 t1 t2 hO hbel hcapL HO HTW HWS hx hln HCC HGG HOWN HB2
              go_wp2_with fail
              refine (HC1.out wr (Below.refl _ _)).mono ?_
              rintro e w1 ⟨rfl, hb1⟩
              have HW1 := hid_m hb1
              clear hb1
              go_wp2_with fail
              refine (HC2.out w1 HW1.out).mono ?_
              rintro e w2 ⟨rfl, hb2⟩
              have HW2 := hid_m (HBW.out.trans ((HW1.out.trans (hb2.mono HW1.out.size)).mono HBW.out.size))
              clear hb2
              go_wp2_with fail
              go_ret
              exact ⟨rfl, HW2.out⟩
end Go.Proofs.Ytmjjiehnjghndaa
