/-
  PROVED HERE: lanelaw3.TreeSerial answers true, of any tree and grips, over whatever keeps TEdgesC and GOrderC.
  Conditions: these.
-/
import Derived.Test.YtmgadiopjofegaiTreeAsk
import Derived.BigQuiet
import Derived.Deep.QuietTactic
import Derived.Deep.Cut
namespace Go.Proofs.Ytmgadiopjofegai
open Go.RowKit

theorem hid_t {p : Prop} (h : p) : Hid p := h
theorem fact3_at (W : World) : IsGrips (W.alloc (.cells #[.int .i64 1, .int .i64 1, .bool true, .int .i64 1, .int .i64 1, .bool false, .int .i64 2, .int .i64 1, .bool true] 25)) (.slice (some ⟨W.heap.size, 0, none⟩) 3 3) fact3 := by
  refine ⟨some ⟨W.heap.size, 0, none⟩, W.heap.size, 0, 3, rfl, fun _ => rfl, fun h => (by cases h), .inl (by simp), fun i hi => ?_⟩
  match i, hi with
  | 0, _ => exact ⟨by simp [gAt, fact3], by simp [gAt, fact3], by simp [gAt, fact3]⟩
  | 1, _ => exact ⟨by simp [gAt, fact3], by simp [gAt, fact3], by simp [gAt, fact3]⟩
  | 2, _ => exact ⟨by simp [gAt, fact3], by simp [gAt, fact3], by simp [gAt, fact3]⟩
  | k + 3, h => exact absurd h (by simp [fact3])
theorem zero_at (W : World) (T : TypeId) : IsInts (W.alloc (.cells #[.int .i64 0] T)) (.slice (some ⟨W.heap.size, 0, none⟩) 1 1) [0] := by
  refine ⟨some ⟨W.heap.size, 0, none⟩, W.heap.size, 0, 1, rfl, fun _ => rfl, fun h => (by cases h), .inl (by simp), fun i hi => ?_⟩
  match i, hi with
  | 0, _ => simp
  | k + 1, h => exact absurd h (by simp)
set_option maxHeartbeats 16000000 in
set_option maxRecDepth 100000 in
theorem tser_any (hE : TEdgesC) (hG : GOrderC) (up : List Int) (l : List Grip3) (vu vl : Value) (w : World) (hU : IsInts w vu up) (hI : IsGrips w vl l) :
    Calls Try.prog 3 #[vu, vl] w fun e w' => e = .returned (.bool true) ∧ Below w.heap.size w w' := by
  have HST : Hid (∀ W W', Below w.heap.size w W → Below W.heap.size W W' → Below w.heap.size w W') := fun W W' h1 h2 => h1.trans (h2.mono h1.size)
  have HONE : Hid (∀ W u z, IsInts W u [0] → IsGrips W z fact3 → Calls Try.prog 4 #[u, z] W fun e w' => ∃ g o c, e = .returned (.tuple #[.slice (some ⟨g, o, none⟩) 1 c, .nilIface]) ∧ w'.cell? ⟨g, o, none⟩ = some (.int .i64 1) ∧ w'.cell? ⟨g, o + 1, none⟩ = some (.int .i64 2) ∧ Below W.heap.size W w') := fun W u z hu hz => by
    refine (hE [0] fact3 u z W hu hz).mono ?_
    rintro e w' ⟨v', he, hi, hb⟩
    rw [fact3_edges.1] at he hi
    rw [if_neg (by decide), fact3_edges.2] at hi
    obtain ⟨ad, g, o, c, rfl, h1, -, -, k1⟩ := hi
    rw [h1 (by simp)] at he
    have k2 := k1 0 (by simp)
    exact ⟨g, o, c, he, by simpa using k2.1, by simpa using k2.2, hb⟩
  have HED : Hid (∀ W, Below w.heap.size w W → Calls Try.prog 4 #[vu, vl] W fun e w' => ∃ v', e = .returned (.tuple #[v', errV (gripsR up l).2]) ∧ IsEdges w' v' (if (gripsR up l).2 ≠ 0 then [] else gripL l) ∧ Below W.heap.size W w') := fun W hW => hE up l vu vl W (hU.below hW (Nat.le_refl _)) (hI.below hW (Nat.le_refl _))
  have HGO := hid_t hG
  obtain ⟨ad1, b1, o1, c1, hv1, -⟩ := hU
  subst hv1
  obtain ⟨ad2, b2, o2, c2, hv2, -⟩ := hI
  subst hv2
  clear hE hG
  go_enter Try.func3, Try.ntmps3
  go_wp2_with fail
  obtain ⟨W1, hW1⟩ : ∃ W, W = w.alloc (.cells #[.int .i64 1, .int .i64 1, .bool true, .int .i64 1, .int .i64 1, .bool false, .int .i64 2, .int .i64 1, .bool true] 25) := ⟨_, rfl⟩
  have hon : IsGrips W1 (.slice (some ⟨w.heap.size, 0, none⟩) 3 3) fact3 := by rw [hW1]; exact fact3_at w
  have hs1 : W1.heap.size = w.heap.size + 1 := by rw [hW1]; simp
  have hb1 : Below w.heap.size w W1 := by rw [hW1]; exact (Below.refl _ w).alloc (Nat.le_refl _) _
  rw [← hW1]
  have HB1 := hid_t hb1
  have HON := hid_t hon
  have HS1 := hid_t hs1
  clear hW1 hon hb1
  have h3 := HONE.out (W1.alloc (.cells #[.int .i64 0] 3)) (.slice (some ⟨W1.heap.size, 0, none⟩) 1 1) _ (zero_at W1 _) (HON.out.below ((Below.refl _ W1).alloc (Nat.le_refl _) _) (Nat.le_refl _))
  rw [hs1] at h3
  refine h3.mono ?_
  clear h3 hs1
  rintro e w2 ⟨g, o, c, rfl, k0, k1, hb2⟩
  have HB2 := hid_t (HST.out _ _ (HST.out _ _ HB1.out ((Below.refl _ W1).alloc (Nat.le_refl _) _)) hb2)
  clear hb2
  go_upto_region 5 with (fail)
  clear k0 k1 HONE HON HS1
  by_cases hc : (gripsR up l).2 = 0
  · obtain ⟨t1, t2, od, t3, t4⟩ := tree_order hc
    rw [hc, if_neg (by decide)] at HED
    have HE2 : Hid (∀ W, Below w.heap.size w W → Calls Try.prog 4 #[.slice ad1 up.length c1, .slice ad2 l.length c2] W fun e w' => ∃ v', e = .returned (.tuple #[v', .nilIface]) ∧ IsEdges w' v' (gripL l) ∧ Below W.heap.size W w') := HED.out
    have HG2 : Hid (∀ W u, IsEdges W u (gripL l) → Calls Try.prog 5 #[u] W fun e w' => ∃ v', e = .returned (.tuple #[v', .nilIface]) ∧ IsInts w' v' od ∧ od.length ≤ 7 ∧ Below W.heap.size W w') := fun W u hu => HGO.out _ u W hu t1 od t3
    have HNE := hid_t t2
    have HGL := hid_t (gripL_len l)
    obtain ⟨x, hx⟩ : ∃ x, gripL l = x := ⟨_, rfl⟩
    rw [hx] at HE2 HG2 HNE HGL
    have hod : (od.length : Int) ≤ 6 := by omega
    obtain ⟨no, hno⟩ : ∃ n, od.length = n := ⟨_, rfl⟩
    rw [hno] at hod
    have HNO := hid_t hno
    clear hc t1 t2 t3 t4 HED HGO hx hno
    go_wp2_with fail
    refine (HE2.out w2 HB2.out).mono ?_
    rintro e w3 ⟨v3, rfl, hi3, hb3⟩
    have HI3 := hid_t hi3
    have HB3 := hid_t (HST.out _ _ HB2.out hb3)
    obtain ⟨ad3, b3, o3, c3, hv3, -⟩ := hi3
    subst hv3
    clear hb3
    go_wp2_with fail
    refine (HG2.out w3 _ HI3.out).mono ?_
    rintro e w4 ⟨v4, rfl, hi4, -, hb4⟩
    have HB4 := hid_t (HST.out _ _ HB3.out hb4)
    have HI4 : Hid (IsEdges w4 (.slice ad3 x.length c3) x) := HI3.out.below hb4 (Nat.le_refl _)
    obtain ⟨ad4, b4, o4, c4, hv4, -⟩ := hi4
    rw [HNO.out] at hv4
    subst hv4
    obtain ⟨ad5, b5, o5, c5, e5, h5, -, hB5, k5⟩ := HI4.out
    injection e5 with e6 e7 e8
    have HCE : Hid (∀ W, Below w4.heap.size w4 W → ∀ k, k < x.length → ad3 = some ⟨b5, o5, none⟩ ∧ b5 < W.heap.size ∧ W.cell? ⟨b5, o5 + k * 2, none⟩ = some (.int .i64 (x.getD k (0, 0)).1) ∧ W.cell? ⟨b5, o5 + k * 2 + 1, none⟩ = some (.int .i64 (x.getD k (0, 0)).2)) := fun W hW k hk => by
      have hlt : b5 < w4.heap.size := by
        rcases hB5 with h | h
        · exact h
        · rw [h] at hk; cases hk
      obtain ⟨q0, q1⟩ := k5 k hk
      exact ⟨by rw [e6]; exact h5 (by omega), Nat.lt_of_lt_of_le hlt hW.size, (hW.cell (p := ⟨b5, o5 + k * 2, none⟩) hlt).trans q0, (hW.cell (p := ⟨b5, o5 + k * 2 + 1, none⟩) hlt).trans q1⟩
    have hx36 := HGL.out
    obtain ⟨nx, hnx⟩ : ∃ n, x.length = n := ⟨_, rfl⟩
    have HNX := hid_t hnx
    rw [hnx] at HCE hx36 ⊢
    clear hb4 e6 e7 e8 h5 hB5 k5 hnx HI4 HI3 HE2 HG2
    go_wp2_with fail
    go_loopw [12] (fun v12 wr => ∃ k : Nat, k ≤ nx ∧ v12 = .int .i64 k ∧ Below w4.heap.size w4 wr) (fun v12 _ => nx - (intOf v12).toNat)
    case atStart => exact ⟨0, Nat.zero_le _, rfl, Below.refl _ _⟩
    case round =>
      obtain ⟨k, hk, rfl, hbel⟩ := hrel
      have HBE := hid_t hbel
      by_cases hlt : k < nx
      · have hlt' : (k : Int) < (nx : Int) := by omega
        have hk0 : (0 : Int) ≤ (k : Int) := by omega
        have hkn : ¬ (k : Int) < 0 := by omega
        obtain ⟨rfl, hbw, q0, q1⟩ := HCE.out wr hbel k hlt
        have hne := HNE.out (x.getD k (0, 0)) (by have := HNX.out; simp [List.getD, List.getElem?_eq_getElem (show k < x.length by omega)])
        obtain ⟨⟨f, t⟩, hft⟩ : ∃ e, x.getD k (0, 0) = e := ⟨_, rfl⟩
        rw [hft] at q0 q1 hne
        simp only at q0 q1 hne
        have hq : (f == t) = false := by simpa using hne
        have HQ4 : Hid (∀ nq, Below w4.heap.size w4 (wr.drewN nq)) := fun nq => HBE.out.trans ((below_drewN (Below.refl _ _) _).mono HBE.out.size)
        clear hft hne hbel
        go_upto_region 12 with (fail)
        go_quiet (fail)
        go_wp2_with fail
        go_roundw
        case rel => exact ⟨k + 1, by omega, by go_num, HQ4.out _⟩
        case measure => simp [intOf]; omega
      · have hlt' : ¬ (k : Int) < (nx : Int) := by omega
        have HB9 := hid_t (HST.out _ _ HB4.out hbel)
        clear hbel
        go_wp2_with fail
        go_ret
        exact ⟨rfl, HB9.out⟩
  · have e0 : errV (gripsR up l).2 = .iface 47 (.int .i64 (gripsR up l).2) := by unfold errV; rw [if_neg hc]
    rw [e0, if_pos hc] at HED
    obtain ⟨ce, hce⟩ : ∃ c, (gripsR up l).2 = c := ⟨_, rfl⟩
    rw [hce] at HED
    clear hc e0 hce HGO
    go_wp2_with fail
    refine (HED.out w2 HB2.out).mono ?_
    rintro e w3 ⟨v3, rfl, hi3, hb3⟩
    have HB3 := hid_t (HST.out _ _ HB2.out hb3)
    obtain ⟨ad3, b3, o3, c3, rfl, -⟩ := hi3
    clear hb3
    go_wp2_with fail
    go_ret
    exact ⟨rfl, HB3.out⟩
end Go.Proofs.Ytmgadiopjofegai
