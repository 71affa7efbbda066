/-
  PROVED HERE: lanelaw3.MixEach answers true, of any ops and numbers, over whatever keeps MCountC, MGoodC, MNthC, MEdgC, MOrdC and MRingC.
  Conditions: these; the slice is no longer than its capacity.
-/
import Derived.Test.YtmjjiehnjghndaaMixAsk
import Derived.Test.YtmjjiehnjghndaaSameOps2
import Derived.Test.YtmjjiehnjghndaaEdgeRow
import Derived.Test.YtmjjiehnjghndaaMgac
import Derived.Test.YtmjjiehnjghndaaMgae
import Derived.BigQuiet
import Derived.Deep.Cut
namespace Go.Proofs.Ytmjjiehnjghndaa
open Go.RowKit

/-- What odds.Edges, serial.Order and graph.Ring are asked. -/
def MEdgC : Prop := ∀ (l : List Op3) (v : Value) (w : World), IsOps w v l → (chk l).2 = 0 → Calls Try.prog 10 #[v] w fun e w' => ∃ v', e = .returned (.tuple #[v', .nilIface]) ∧ IsEdges w' v' (edgesTo (doneL l) 36) ∧ Below w.heap.size w w'
def ordEr (d : List Op3) : Value := if (serOrd d).isSome = true then .nilIface else .iface 46 (.int .i64 8)
def ringEr (d : List Op3) : Value := if (serOrd d).isSome = true then .iface 46 (.int .i64 5) else .nilIface
def MOrdC : Prop := ∀ (l : List Op3) (v : Value) (w : World), IsOps w v l → (chk l).2 = 0 → Calls Try.prog 11 #[v] w fun e w' => ∃ v', e = .returned (.tuple #[v', ordEr (doneL l)]) ∧ Below w.heap.size w w'
def MRingC : Prop := ∀ (d : List Op3) (v : Value) (w : World), IsEdges w v (edgesTo d 36) → Calls Try.prog 12 #[v] w fun e w' => ∃ v', e = .returned (.tuple #[v', ringEr d]) ∧ Below w.heap.size w w'
def oneM : List Op3 := [(1, 1, 1), (2, 1, 1)]
theorem oneM_is : mixE oneM = 0 ∧ (mixM oneM).length = 2 := by decide +kernel
theorem oneM_at (W : World) : IsOps (W.alloc (.cells #[.int .i64 1, .int .i64 1, .int .i64 1, .int .i64 2, .int .i64 1, .int .i64 1] 24)) (.slice (some ⟨W.heap.size, 0, none⟩) 2 2) oneM := by
  refine ⟨some ⟨W.heap.size, 0, none⟩, W.heap.size, 0, 2, rfl, fun _ => rfl, fun h => (by cases h), .inl (by simp), opsAt_of fun j u hj => ?_⟩
  rw [Nat.zero_add]
  match j, hj with
  | 0, hj => simp [flat, oneM] at hj; subst hj; simp
  | 1, hj => simp [flat, oneM] at hj; subst hj; simp
  | 2, hj => simp [flat, oneM] at hj; subst hj; simp
  | 3, hj => simp [flat, oneM] at hj; subst hj; simp
  | 4, hj => simp [flat, oneM] at hj; subst hj; simp
  | 5, hj => simp [flat, oneM] at hj; subst hj; simp
  | k + 6, hj => simp [flat, oneM] at hj
theorem opsSlice {w : World} {v : Value} {l : List Op3} (h : IsOps w v l) : ∃ ad cap, v = .slice ad l.length cap := by
  obtain ⟨ad, _, _, cap, hv, _⟩ := h
  exact ⟨ad, cap, hv⟩
theorem nth_in {l : List Op3} {k : Int} (h : mixE l = 0) (h0 : 0 ≤ k) (h1 : k < (mixM l).length) : nthE l k = 0 ∧ nthL l k = (mixL l).getD k.toNat [] ∧ nthL l k ∈ mixL l := by
  have e0 : nthE l k = 0 := by unfold nthE; rw [if_neg (by rw [h]; decide), if_neg (by omega)]
  have e1 : nthL l k = (mixL l).getD k.toNat [] := by unfold nthL mixM; rw [if_pos e0, if_pos h]
  refine ⟨e0, e1, ?_⟩
  have hm : mixM l = mixL l := by unfold mixM; rw [if_pos h]
  rw [hm] at h1
  have hlt : k.toNat < (mixL l).length := by omega
  rw [e1]
  simp [List.getD, List.getElem?_eq_getElem hlt]
theorem nth_out {l : List Op3} {k : Int} (h : mixE l = 0) (h1 : k < 0 ∨ ((mixM l).length : Int) ≤ k) : nthE l k = 1 := by
  unfold nthE; rw [if_neg (by rw [h]; decide), if_pos h1]
theorem nth_same {l : List Op3} {k m : Int} (h : mixE l = 0) (h0 : 0 ≤ k) (h1 : k < (mixM l).length) (h2 : 0 ≤ m) (h3 : m < (mixM l).length) : decide (nthL l k = nthL l m) = (k == m) := by
  obtain ⟨_, e1, _⟩ := nth_in h h0 h1
  obtain ⟨_, e2, _⟩ := nth_in h h2 h3
  have hm : mixM l = mixL l := by unfold mixM; rw [if_pos h]
  rw [hm] at h1 h3
  rw [e1, e2, Bool.eq_iff_iff, decide_eq_true_eq, beq_iff_eq, mix_at_inj (by omega) (by omega)]
  omega
set_option maxHeartbeats 16000000 in
set_option maxRecDepth 100000 in
theorem meach_any (hC : MCountC) (hG : MGoodC) (hN : MNthC) (hE : MEdgC) (hO : MOrdC) (hR : MRingC) (l : List Op3) (ad : Option Addr) (cap : Nat) (k m : Int) (w : World) (hI : IsOps w (.slice ad l.length cap) l) (hcap : l.length ≤ cap) :
    Calls Try.prog 3 #[.slice ad l.length cap, .int .i64 k, .int .i64 m] w fun e w' => e = .returned (.bool true) ∧ Below w.heap.size w w' := by
  have HIE : Hid (∀ W, Below w.heap.size w W → IsOps W (.slice ad l.length cap) l) := fun W hW => hI.below hW (Nat.le_refl _)
  have HST : Hid (∀ W W', Below w.heap.size w W → Below W.heap.size W W' → Below w.heap.size w W') := fun W W' h1 h2 => h1.trans (h2.mono h1.size)
  have HONE : Hid (∀ W A, IsOps W (.slice (some ⟨A, 0, none⟩) 2 2) oneM → Calls Try.prog 5 #[.slice (some ⟨A, 0, none⟩) 2 2] W fun e w' => e = .returned (.tuple #[.int .i64 2, .nilIface]) ∧ Below W.heap.size W w') := fun W A hu => by
    have := hC oneM (some ⟨A, 0, none⟩) 2 W hu (Nat.le_refl 2)
    rw [oneM_is.1, oneM_is.2] at this
    exact this
  have HCO : Hid (∀ W, Below w.heap.size w W → Calls Try.prog 5 #[.slice ad l.length cap] W fun e w' => e = .returned (.tuple #[.int .i64 (mixM l).length, errV (mixE l)]) ∧ Below W.heap.size W w') := fun W hW => hC l ad cap W (HIE.out W hW) hcap
  have HGO : Hid (∀ W, Below w.heap.size w W → Calls Try.prog 6 #[.slice ad l.length cap] W fun e w' => e = .returned (.tuple #[.int .i64 (goodN l), errV (mixE l)]) ∧ Below W.heap.size W w') := fun W hW => hG l ad cap W (HIE.out W hW) hcap
  have HNT : Hid (∀ W q, Below w.heap.size w W → Calls Try.prog 7 #[.slice ad l.length cap, .int .i64 q] W fun e w' => ∃ v', e = .returned (.tuple #[v', errV (nthE l q)]) ∧ IsOps w' v' (nthL l q) ∧ Below W.heap.size W w') := fun W q hW => hN l ad cap q W (HIE.out W hW) hcap
  have HED := hid_m hE
  have HOR := hid_m hO
  have HRI := hid_m hR
  clear hC hG hN hE hO hR hI
  go_enter Try.func3, Try.ntmps3
  go_wp2_with fail
  obtain ⟨W1, hW1⟩ : ∃ W, W = w.alloc (.cells #[.int .i64 1, .int .i64 1, .int .i64 1, .int .i64 2, .int .i64 1, .int .i64 1] 24) := ⟨_, rfl⟩
  have hon : IsOps W1 (.slice (some ⟨w.heap.size, 0, none⟩) 2 2) oneM := by rw [hW1]; exact oneM_at w
  rw [← hW1]
  have hb1 : Below w.heap.size w W1 := by rw [hW1]; exact (Below.refl _ w).alloc (Nat.le_refl _) _
  have HB1 := hid_m hb1
  have HON := hid_m hon
  obtain ⟨A, hA⟩ : ∃ A, A = w.heap.size := ⟨_, rfl⟩
  rw [← hA] at HON ⊢
  clear hW1 hon hb1 hA
  refine (HONE.out W1 _ HON.out).mono ?_
  rintro e w2 ⟨rfl, hb2⟩
  have HB2 := hid_m (HST.out _ _ HB1.out hb2)
  clear hb2 HON HONE HB1
  by_cases hx : mixE l = 0
  · obtain ⟨hc, hl8⟩ := mixE_zero hx
    obtain ⟨g1, g2⟩ := good_one hx
    rw [hx] at HCO HGO
    have HNI : Hid (∀ q : Int, 0 ≤ q → q < (mixM l).length → nthE l q = 0 ∧ nthL l q ∈ mixL l) := fun q h0 h1 => ⟨(nth_in hx h0 h1).1, (nth_in hx h0 h1).2.2⟩
    have HNO : Hid (∀ q : Int, (q < 0 ∨ ((mixM l).length : Int) ≤ q) → nthE l q = 1) := fun q h => nth_out hx h
    have HNS : Hid (∀ p q : Int, 0 ≤ p → p < (mixM l).length → 0 ≤ q → q < (mixM l).length → decide (nthL l p = nthL l q) = (p == q)) := fun p q h0 h1 h2 h3 => nth_same hx h0 h1 h2 h3
    have HMX : Hid (∀ x ∈ mixL l, (chk x).2 = 0 ∧ x.length ≤ 8 ∧ ∀ t, ofL x t = ofL l t) := fun x hx => ⟨mix_chk hc hx, by rw [mix_len _ _ x hx]; exact hl8, fun t => mix_of (chk_deal hc) hx t⟩
    have HCH : Hid ((chk l).2 = 0 ∧ l.length ≤ 8) := ⟨hc, hl8⟩
    obtain ⟨n, hn⟩ : ∃ n, (mixM l).length = n := ⟨_, rfl⟩
    obtain ⟨g, hg⟩ : ∃ g, goodN l = g := ⟨_, rfl⟩
    rw [hn] at HCO HNI HNO HNS g2
    rw [hg] at HGO g1 g2
    have g1' : ¬ (g : Int) < 1 := by omega
    have g2' : ¬ (n : Int) < (g : Int) := by omega
    have HC0 : Hid (∀ W, Below w.heap.size w W → Calls Try.prog 5 #[.slice ad l.length cap] W fun e w' => e = .returned (.tuple #[.int .i64 n, .nilIface]) ∧ Below W.heap.size W w') := HCO.out
    have HG0 : Hid (∀ W, Below w.heap.size w W → Calls Try.prog 6 #[.slice ad l.length cap] W fun e w' => e = .returned (.tuple #[.int .i64 g, .nilIface]) ∧ Below W.heap.size W w') := HGO.out
    clear hx hc hl8 hn hg HCO HGO g1 g2
    go_wp2_with fail
    refine (HC0.out w2 HB2.out).mono ?_
    rintro e w3 ⟨rfl, hb3⟩
    have HB3 := hid_m (HST.out _ _ HB2.out hb3)
    clear hb3
    go_wp2_with fail
    refine (HG0.out w3 HB3.out).mono ?_
    rintro e w4 ⟨rfl, hb4⟩
    have HB4 := hid_m (HST.out _ _ HB3.out hb4)
    clear hb4
    go_wp2_with fail
    refine (HNT.out w4 k HB4.out).mono ?_
    rintro e w5 ⟨xv, rfl, hx5, hb5⟩
    have HB5 := hid_m (HST.out _ _ HB4.out hb5)
    have HX5 := hid_m hx5
    obtain ⟨xad, xcap, rfl⟩ := opsSlice hx5
    clear hb5 hx5
    have h1 : errV 1 = .iface 46 (.int .i64 1) := rfl
    have h0 : errV 0 = .nilIface := rfl
    rcases (show k < 0 ∨ (¬ k < 0 ∧ (n : Int) ≤ k) ∨ (¬ k < 0 ∧ ¬ (n : Int) ≤ k) by omega) with hk | ⟨hk, hk2⟩ | ⟨hk, hk2⟩
    · have e1 := HNO.out k (.inl hk)
      rw [e1, h1]
      clear HX5
      go_wp2_with fail
      refine (HNT.out w5 m HB5.out).mono ?_
      rintro e w6 ⟨yv, rfl, hy6, hb6⟩
      have HB6 := hid_m (HST.out _ _ HB5.out hb6)
      obtain ⟨yad, ycap, rfl⟩ := opsSlice hy6
      clear hy6 hb6 e1
      rcases (show m < 0 ∨ (¬ m < 0 ∧ (n : Int) ≤ m) ∨ (¬ m < 0 ∧ ¬ (n : Int) ≤ m) by omega) with hm | ⟨hm, hm2⟩ | ⟨hm, hm2⟩
      · rw [HNO.out m (.inl hm), h1]
        go_wp2_with fail
        go_ret
        exact ⟨rfl, HB6.out⟩
      · rw [HNO.out m (.inr hm2), h1]
        go_wp2_with fail
        go_ret
        exact ⟨rfl, HB6.out⟩
      · rw [(HNI.out m (by omega) (by omega)).1, h0]
        go_wp2_with fail
        go_ret
        exact ⟨rfl, HB6.out⟩
    · have e1 := HNO.out k (.inr hk2)
      rw [e1, h1]
      clear HX5
      go_wp2_with fail
      refine (HNT.out w5 m HB5.out).mono ?_
      rintro e w6 ⟨yv, rfl, hy6, hb6⟩
      have HB6 := hid_m (HST.out _ _ HB5.out hb6)
      obtain ⟨yad, ycap, rfl⟩ := opsSlice hy6
      clear hy6 hb6 e1
      rcases (show m < 0 ∨ (¬ m < 0 ∧ (n : Int) ≤ m) ∨ (¬ m < 0 ∧ ¬ (n : Int) ≤ m) by omega) with hm | ⟨hm, hm2⟩ | ⟨hm, hm2⟩
      · rw [HNO.out m (.inl hm), h1]
        go_wp2_with fail
        go_ret
        exact ⟨rfl, HB6.out⟩
      · rw [HNO.out m (.inr hm2), h1]
        go_wp2_with fail
        go_ret
        exact ⟨rfl, HB6.out⟩
      · rw [(HNI.out m (by omega) (by omega)).1, h0]
        go_wp2_with fail
        go_ret
        exact ⟨rfl, HB6.out⟩
    · obtain ⟨e1, hmem⟩ := HNI.out k (by omega) (by omega)
      obtain ⟨xc, xl, xo⟩ := HMX.out _ hmem
      have HKN : Hid (0 ≤ k ∧ k < (n : Int)) := ⟨by omega, by omega⟩
      have HSMK : Hid (∀ q : Int, 0 ≤ q → q < (n : Int) → decide (nthL l k = nthL l q) = (k == q) ∧ (nthL l q).length ≤ 8) := fun q h0 h1 => ⟨HNS.out k q HKN.out.1 HKN.out.2 h0 h1, (HMX.out _ (HNI.out q h0 h1).2).2.1⟩
      rw [e1, h0]
      obtain ⟨X, hX⟩ : ∃ X, nthL l k = X := ⟨_, rfl⟩
      rw [hX] at HX5 xc xl xo HSMK
      obtain ⟨xn, hxn⟩ : ∃ n, X.length = n := ⟨_, rfl⟩
      have HXN := hid_m hxn
      rw [hX, hxn]
      rw [hxn] at HX5
      clear e1 hmem hX hxn HMX
      go_wp2_with fail
      refine (HNT.out w5 m HB5.out).mono ?_
      rintro e w6 ⟨yv, rfl, hy6, hb6⟩
      have HB6 := hid_m (HST.out _ _ HB5.out hb6)
      have HY6 := hid_m hy6
      have HX6 : Hid (∀ V, Below w6.heap.size w6 V → IsOps V (.slice xad xn xcap) X) := fun V hV => (HX5.out.below hb6 (Nat.le_refl _)).below hV (Nat.le_refl _)
      obtain ⟨yad, ycap, rfl⟩ := opsSlice hy6
      have HOF : Hid (∀ V, Below w6.heap.size w6 V → ∀ t, 1 ≤ t → t ≤ 6 → Calls Try.prog 8 #[.slice ad l.length cap, .int .i64 t] V fun e w' => ∃ v', e = .returned (.tuple #[v', .nilIface]) ∧ IsOps w' v' (ofL l t) ∧ Below V.heap.size V w') := fun V hV t t1 t6 => of_ok l _ t V (HIE.out V (HST.out _ _ HB6.out hV)) HCH.out.1 t1 t6
      have HOX : Hid (∀ V, Below w6.heap.size w6 V → ∀ t, 1 ≤ t → t ≤ 6 → Calls Try.prog 8 #[.slice xad xn xcap, .int .i64 t] V fun e w' => ∃ v', e = .returned (.tuple #[v', .nilIface]) ∧ IsOps w' v' (ofL l t) ∧ Below V.heap.size V w') := fun V hV t t1 t6 => by
        have := of_ok X _ t V (HX6.out V hV) xc t1 t6
        rw [xo t] at this
        exact this
      have HSM : Hid (∀ V t v u, IsOps V v (ofL l t) → IsOps V u (ofL l t) → Calls Try.prog 9 #[v, u] V fun e w' => e = .returned (.bool true) ∧ Below V.heap.size V w') := fun V t v u h1 h2 => by
        have hle : (ofL l t).length ≤ 8 := Nat.le_trans (List.length_filter_le ..) HCH.out.2
        have := same_ops2 _ _ v u V h1 h2 (by omega) (by omega)
        rw [decide_eq_true rfl] at this
        exact this
      obtain ⟨d, hd⟩ : ∃ d, doneL X = d := ⟨_, rfl⟩
      have HEX : Hid (∀ V, Below w6.heap.size w6 V → Calls Try.prog 10 #[.slice xad xn xcap] V fun e w' => ∃ v', e = .returned (.tuple #[v', .nilIface]) ∧ IsEdges w' v' (edgesTo d 36) ∧ Below V.heap.size V w') := fun V hV => by rw [← hd]; exact HED.out X _ V (HX6.out V hV) xc
      have HOD : Hid (∀ V, Below w6.heap.size w6 V → Calls Try.prog 11 #[.slice xad xn xcap] V fun e w' => ∃ v', e = .returned (.tuple #[v', ordEr d]) ∧ Below V.heap.size V w') := fun V hV => by rw [← hd]; exact HOR.out X _ V (HX6.out V hV) xc
      have HXL : Hid (X.length ≤ 8) := xl
      clear hb6 hy6 HX5 hd xc xo xl HED HOR HC0 HG0 g1' g2' HIE
      rcases (show m < 0 ∨ (¬ m < 0 ∧ (n : Int) ≤ m) ∨ (¬ m < 0 ∧ ¬ (n : Int) ≤ m) by omega) with hm | ⟨hm, hm2⟩ | ⟨hm, hm2⟩
      · rw [HNO.out m (.inl hm), h1]
        clear HSMK HEX HOD HRI HY6
        go_wp2_with fail
        go_loopw [18] (fun v18 V => ∃ j : Nat, j ≤ 6 ∧ v18 = .int .i64 ((j : Int) + 1) ∧ Below w6.heap.size w6 V) (fun v18 _ => 7 - (intOf v18).toNat)
        case atStart => exact ⟨0, Nat.zero_le _, rfl, Below.refl _ _⟩
        case round =>
          obtain ⟨j, hj, rfl, hbel⟩ := hrel
          have HBE := hid_m hbel
          clear hbel
          by_cases hj6 : j < 6
          · have hj' : (j : Int) + 1 ≤ 6 := by omega
            have HO1 := hid_m (HOF.out wr HBE.out ((j : Int) + 1) (by omega) (by omega))
            go_wp2_with fail
            refine HO1.out.mono ?_
            rintro e w7 ⟨av, rfl, ha7, hb7⟩
            have HA7 := hid_m ha7
            have HB7 := hid_m (HBE.out.trans (hb7.mono HBE.out.size))
            obtain ⟨aad, acap, rfl⟩ := opsSlice ha7
            have HO2 := hid_m (HOX.out w7 HB7.out ((j : Int) + 1) (by omega) (by omega))
            clear ha7 hb7 HO1
            go_wp2_with fail
            refine HO2.out.mono ?_
            rintro e w8 ⟨bv, rfl, hb8, hc8⟩
            have HB8 := hid_m (HB7.out.trans (hc8.mono HB7.out.size))
            have HSO := hid_m (HSM.out w8 ((j : Int) + 1) _ _ (HA7.out.below hc8 (Nat.le_refl _)) hb8)
            obtain ⟨bad, bcap, rfl⟩ := opsSlice hb8
            clear hb8 hc8 HO2 HA7 HB7
            go_wp2_with fail
            refine HSO.out.mono ?_
            rintro e w9 ⟨rfl, hb9⟩
            have HB9 := hid_m (HB8.out.trans (hb9.mono HB8.out.size))
            clear hb9 HSO HB8
            go_wp2_with fail
            go_roundw
            case rel => exact ⟨j + 1, by omega, by go_num, HB9.out⟩
            case measure => simp [intOf]; omega
          · obtain rfl : j = 6 := by omega
            go_wp2_with fail
            go_ret
            exact ⟨rfl, HST.out _ _ HB6.out HBE.out⟩
      · rw [HNO.out m (.inr hm2), h1]
        clear HSMK HEX HOD HRI HY6
        go_wp2_with fail
        go_loopw [18] (fun v18 V => ∃ j : Nat, j ≤ 6 ∧ v18 = .int .i64 ((j : Int) + 1) ∧ Below w6.heap.size w6 V) (fun v18 _ => 7 - (intOf v18).toNat)
        case atStart => exact ⟨0, Nat.zero_le _, rfl, Below.refl _ _⟩
        case round =>
          obtain ⟨j, hj, rfl, hbel⟩ := hrel
          have HBE := hid_m hbel
          clear hbel
          by_cases hj6 : j < 6
          · have hj' : (j : Int) + 1 ≤ 6 := by omega
            have HO1 := hid_m (HOF.out wr HBE.out ((j : Int) + 1) (by omega) (by omega))
            go_wp2_with fail
            refine HO1.out.mono ?_
            rintro e w7 ⟨av, rfl, ha7, hb7⟩
            have HA7 := hid_m ha7
            have HB7 := hid_m (HBE.out.trans (hb7.mono HBE.out.size))
            obtain ⟨aad, acap, rfl⟩ := opsSlice ha7
            have HO2 := hid_m (HOX.out w7 HB7.out ((j : Int) + 1) (by omega) (by omega))
            clear ha7 hb7 HO1
            go_wp2_with fail
            refine HO2.out.mono ?_
            rintro e w8 ⟨bv, rfl, hb8, hc8⟩
            have HB8 := hid_m (HB7.out.trans (hc8.mono HB7.out.size))
            have HSO := hid_m (HSM.out w8 ((j : Int) + 1) _ _ (HA7.out.below hc8 (Nat.le_refl _)) hb8)
            obtain ⟨bad, bcap, rfl⟩ := opsSlice hb8
            clear hb8 hc8 HO2 HA7 HB7
            go_wp2_with fail
            refine HSO.out.mono ?_
            rintro e w9 ⟨rfl, hb9⟩
            have HB9 := hid_m (HB8.out.trans (hb9.mono HB8.out.size))
            clear hb9 HSO HB8
            go_wp2_with fail
            go_roundw
            case rel => exact ⟨j + 1, by omega, by go_num, HB9.out⟩
            case measure => simp [intOf]; omega
          · obtain rfl : j = 6 := by omega
            go_wp2_with fail
            go_ret
            exact ⟨rfl, HST.out _ _ HB6.out HBE.out⟩
      · rw [(HNI.out m (by omega) (by omega)).1, h0]
        obtain ⟨hkm0, hyl⟩ := HSMK.out m (by omega) (by omega)
        obtain ⟨Y, hY⟩ : ∃ Y, nthL l m = Y := ⟨_, rfl⟩
        rw [hY] at hkm0 hyl HY6 ⊢
        obtain ⟨yn, hyn⟩ : ∃ n, Y.length = n := ⟨_, rfl⟩
        have HSXY : Hid (∀ V, Below w6.heap.size w6 V → Calls Try.prog 9 #[.slice xad xn xcap, .slice yad yn ycap] V fun e w' => e = .returned (.bool (k == m)) ∧ Below V.heap.size V w') := fun V hV => by
          rw [← hkm0]
          exact same_ops2 X Y _ _ V (HX6.out V hV) (by rw [← hyn]; exact HY6.out.below hV (Nat.le_refl _)) (by have := HXL.out; omega) (by omega)
        rw [hyn]
        clear HSMK hkm0 hyl hY HY6 hyn
        go_wp2_with fail
        go_loopw [18] (fun v18 V => ∃ j : Nat, j ≤ 6 ∧ v18 = .int .i64 ((j : Int) + 1) ∧ Below w6.heap.size w6 V) (fun v18 _ => 7 - (intOf v18).toNat)
        case atStart => exact ⟨0, Nat.zero_le _, rfl, Below.refl _ _⟩
        case round =>
          obtain ⟨j, hj, rfl, hbel⟩ := hrel
          have HBE := hid_m hbel
          clear hbel
          by_cases hj6 : j < 6
          · have hj' : (j : Int) + 1 ≤ 6 := by omega
            have HO1 := hid_m (HOF.out wr HBE.out ((j : Int) + 1) (by omega) (by omega))
            go_wp2_with fail
            refine HO1.out.mono ?_
            rintro e w7 ⟨av, rfl, ha7, hb7⟩
            have HA7 := hid_m ha7
            have HB7 := hid_m (HBE.out.trans (hb7.mono HBE.out.size))
            obtain ⟨aad, acap, rfl⟩ := opsSlice ha7
            have HO2 := hid_m (HOX.out w7 HB7.out ((j : Int) + 1) (by omega) (by omega))
            clear ha7 hb7 HO1
            go_wp2_with fail
            refine HO2.out.mono ?_
            rintro e w8 ⟨bv, rfl, hb8, hc8⟩
            have HB8 := hid_m (HB7.out.trans (hc8.mono HB7.out.size))
            have HSO := hid_m (HSM.out w8 ((j : Int) + 1) _ _ (HA7.out.below hc8 (Nat.le_refl _)) hb8)
            obtain ⟨bad, bcap, rfl⟩ := opsSlice hb8
            clear hb8 hc8 HO2 HA7 HB7
            go_wp2_with fail
            refine HSO.out.mono ?_
            rintro e w9 ⟨rfl, hb9⟩
            have HB9 := hid_m (HB8.out.trans (hb9.mono HB8.out.size))
            clear hb9 HSO HB8
            go_wp2_with fail
            go_roundw
            case rel => exact ⟨j + 1, by omega, by go_num, HB9.out⟩
            case measure => simp [intOf]; omega
          · obtain rfl : j = 6 := by omega
            go_wp2_with fail
            refine (HSXY.out wr HBE.out).mono ?_
            rintro e w7 ⟨rfl, hb7⟩
            have HB7 := hid_m (HBE.out.trans (hb7.mono HBE.out.size))
            clear hb7 HBE
            have HE1 := hid_m (HEX.out w7 HB7.out)
            cases hkm : (k == m) with
            | true =>
              go_wp2_with fail
              refine HE1.out.mono ?_
              rintro e w8 ⟨pv, rfl, hp8, hb8⟩
              have HB8 := hid_m (HB7.out.trans (hb8.mono HB7.out.size))
              have HP8 := hid_m hp8
              obtain ⟨pad, pn, pcap, rfl⟩ : ∃ pad pn pcap, pv = .slice pad pn pcap := by
                obtain ⟨ad, _, _, cap, hv, _⟩ := hp8
                exact ⟨ad, _, cap, hv⟩
              have HO3 := hid_m (HOD.out w8 HB8.out)
              clear hp8 hb8 HE1
              go_wp2_with fail
              refine HO3.out.mono ?_
              rintro e w9 ⟨ov, rfl, hb9⟩
              have HB9 := hid_m (HB8.out.trans (hb9.mono HB8.out.size))
              have HR9 := hid_m (HRI.out d (.slice pad pn pcap) w9 (HP8.out.below hb9 (Nat.le_refl _)))
              clear hb9 HO3
              cases hd : (serOrd d).isSome with
              | true =>
                have q1 : ordEr d = .nilIface := by unfold ordEr; rw [if_pos hd]
                have q2 : ringEr d = .iface 46 (.int .i64 5) := by unfold ringEr; rw [if_pos hd]
                rw [q2] at HR9
                rw [q1]
                clear q1 q2 hd
                go_wp2_with fail
                refine HR9.out.mono ?_
                rintro e w10 ⟨rv, rfl, hb10⟩
                have HB10 := hid_m (HB9.out.trans (hb10.mono HB9.out.size))
                have HBZ : Hid (∀ q, Below w.heap.size w (w10.drewN q)) := fun q => below_drewN (HST.out _ _ HB6.out HB10.out) q
                clear hb10 HR9
                go_wp2_with fail
                go_quiet (fail)
                go_wp2_with fail
                go_ret
                exact ⟨rfl, HBZ.out _⟩
              | false =>
                have q1 : ordEr d = .iface 46 (.int .i64 8) := by unfold ordEr; rw [if_neg (by rw [hd]; decide)]
                have q2 : ringEr d = .nilIface := by unfold ringEr; rw [if_neg (by rw [hd]; decide)]
                rw [q2] at HR9
                rw [q1]
                clear q1 q2 hd
                go_wp2_with fail
                refine HR9.out.mono ?_
                rintro e w10 ⟨rv, rfl, hb10⟩
                have HB10 := hid_m (HB9.out.trans (hb10.mono HB9.out.size))
                have HBZ : Hid (∀ q, Below w.heap.size w (w10.drewN q)) := fun q => below_drewN (HST.out _ _ HB6.out HB10.out) q
                clear hb10 HR9
                go_wp2_with fail
                go_quiet (fail)
                go_wp2_with fail
                go_ret
                exact ⟨rfl, HBZ.out _⟩
            | false =>
              go_wp2_with fail
              refine HE1.out.mono ?_
              rintro e w8 ⟨pv, rfl, hp8, hb8⟩
              have HB8 := hid_m (HB7.out.trans (hb8.mono HB7.out.size))
              have HP8 := hid_m hp8
              obtain ⟨pad, pn, pcap, rfl⟩ : ∃ pad pn pcap, pv = .slice pad pn pcap := by
                obtain ⟨ad, _, _, cap, hv, _⟩ := hp8
                exact ⟨ad, _, cap, hv⟩
              have HO3 := hid_m (HOD.out w8 HB8.out)
              clear hp8 hb8 HE1
              go_wp2_with fail
              refine HO3.out.mono ?_
              rintro e w9 ⟨ov, rfl, hb9⟩
              have HB9 := hid_m (HB8.out.trans (hb9.mono HB8.out.size))
              have HR9 := hid_m (HRI.out d (.slice pad pn pcap) w9 (HP8.out.below hb9 (Nat.le_refl _)))
              clear hb9 HO3
              cases hd : (serOrd d).isSome with
              | true =>
                have q1 : ordEr d = .nilIface := by unfold ordEr; rw [if_pos hd]
                have q2 : ringEr d = .iface 46 (.int .i64 5) := by unfold ringEr; rw [if_pos hd]
                rw [q2] at HR9
                rw [q1]
                clear q1 q2 hd
                go_wp2_with fail
                refine HR9.out.mono ?_
                rintro e w10 ⟨rv, rfl, hb10⟩
                have HB10 := hid_m (HB9.out.trans (hb10.mono HB9.out.size))
                have HBZ : Hid (∀ q, Below w.heap.size w (w10.drewN q)) := fun q => below_drewN (HST.out _ _ HB6.out HB10.out) q
                clear hb10 HR9
                go_wp2_with fail
                go_quiet (fail)
                go_wp2_with fail
                go_ret
                exact ⟨rfl, HBZ.out _⟩
              | false =>
                have q1 : ordEr d = .iface 46 (.int .i64 8) := by unfold ordEr; rw [if_neg (by rw [hd]; decide)]
                have q2 : ringEr d = .nilIface := by unfold ringEr; rw [if_neg (by rw [hd]; decide)]
                rw [q2] at HR9
                rw [q1]
                clear q1 q2 hd
                go_wp2_with fail
                refine HR9.out.mono ?_
                rintro e w10 ⟨rv, rfl, hb10⟩
                have HB10 := hid_m (HB9.out.trans (hb10.mono HB9.out.size))
                have HBZ : Hid (∀ q, Below w.heap.size w (w10.drewN q)) := fun q => below_drewN (HST.out _ _ HB6.out HB10.out) q
                clear hb10 HR9
                go_wp2_with fail
                go_quiet (fail)
                go_wp2_with fail
                go_ret
                exact ⟨rfl, HBZ.out _⟩
  · have he : errV (mixE l) = .iface 46 (.int .i64 (mixE l)) := by unfold errV; rw [if_neg hx]
    rw [he] at HCO
    clear he
    go_wp2_with fail
    refine (HCO.out w2 HB2.out).mono ?_
    rintro e w3 ⟨rfl, hb3⟩
    have HB3 := hid_m (HST.out _ _ HB2.out hb3)
    clear hb3
    go_wp2_with fail
    go_ret
    exact ⟨rfl, HB3.out⟩
end Go.Proofs.Ytmjjiehnjghndaa
