/-
  PROVED HERE: lanelaw2.StampOrders answers true, of any ops, over whatever keeps StampC, and what odds.Edges, serial.Order and history.Of answer of what is right.
  Conditions: these contracts.
-/
import Derived.Test.YtppbplhpldoccafStampAsk
import Derived.Test.YtppbplhpldoccafMgbf
import Derived.Test.YtppbplhpldoccafMgar
import Derived.Deep.Cut
namespace Go.Proofs.Ytppbplhpldoccaf
open Go.RowKit

theorem hid_of4 {p : Prop} (h : p) : Hid p := h
def EdgesC : Prop := ∀ (l : List Op3) (v : Value) (w : World), IsOps w v l → (chk l).2 = 0 → Calls Try.prog 6 #[v] w fun e w' => ∃ v', e = .returned (.tuple #[v', .nilIface]) ∧ IsEdges w' v' (edgesTo (doneL l) 36) ∧ Below w.heap.size w w'
def OrderC : Prop := ∀ (l : List Op3) (v : Value) (o : List Int) (w : World), IsOps w v l → (chk l).2 = 0 → serOrd (doneL l) = some o → Calls Try.prog 7 #[v] w fun e w' => ∃ v', e = .returned (.tuple #[v', .nilIface]) ∧ IsInts w' v' o ∧ Below w.heap.size w w'
def OfC : Prop := ∀ (l : List Op3) (v : Value) (t : Int) (w : World), IsOps w v l → (chk l).2 = 0 → 1 ≤ t → t ≤ 6 → Calls Try.prog 8 #[v, .int .i64 t] w fun e w' => ∃ v', e = .returned (.tuple #[v', .nilIface]) ∧ IsOps w' v' (ofL l t) ∧ Below w.heap.size w w'
theorem two_at (W : World) : IsOps (W.alloc (.cells #[.int .i64 2, .int .i64 2, .int .i64 1, .int .i64 1, .int .i64 1, .int .i64 1] 24)) (.slice (some ⟨W.heap.size, 0, none⟩) 2 2) [(2, 2, 1), (1, 1, 1)] := by
  refine ⟨some ⟨W.heap.size, 0, none⟩, W.heap.size, 0, 2, rfl, fun _ => rfl, fun h => (by cases h), .inl (by simp), opsAt_of fun j u hj => ?_⟩
  rw [Nat.zero_add]
  match j, hj with
  | 0, hj => simp [flat] at hj; subst hj; simp
  | 1, hj => simp [flat] at hj; subst hj; simp
  | 2, hj => simp [flat] at hj; subst hj; simp
  | 3, hj => simp [flat] at hj; subst hj; simp
  | 4, hj => simp [flat] at hj; subst hj; simp
  | 5, hj => simp [flat] at hj; subst hj; simp
  | k + 6, hj => simp [flat] at hj
theorem rise_at {o : List Int} (h : o.Pairwise (· < ·)) {m : Nat} (hm : m + 1 < o.length) : o.getD m 0 < o.getD (m + 1) 0 := by
  have := List.pairwise_iff_getElem.1 h m (m + 1) (by omega) hm (by omega)
  simpa [List.getD, List.getElem?_eq_getElem (show m < o.length by omega), List.getElem?_eq_getElem hm] using this
/-- What StampOrders asks of what a run tells. -/
theorem stamp_facts (leave : Bool) {l : List Op3} (h : (chk l).2 = 0) : (chk (stampR leave l).told).2 = 0 ∧ (∀ e ∈ edgesTo (doneL (stampR leave l).told) 36, e.1 < e.2) ∧ serOrd (doneL (stampR leave l).told) = some (dealsL (doneL (stampR leave l).told)) ∧ (dealsL (doneL (stampR leave l).told)).Pairwise (· < ·) ∧ ∀ v ∈ (stampR leave l).vict, (1 ≤ v ∧ v ≤ 6) ∧ ∃ q, ofL (stampR leave l).told v = q ++ [(v, 4, 0)] := by
  have h1 := stamp_all leave h
  obtain ⟨h2, h3⟩ := stamp_up leave h
  exact ⟨stamp_chk leave h, fun e he => up_edges h2 he, up_order h2 h3, dealsL_rise _, fun v hv => ⟨(h1.vict v hv).2, h1.last v (h1.vict v hv).1⟩⟩
set_option maxHeartbeats 32000000 in
set_option maxRecDepth 100000 in
theorem sporders_any (hS : StampC) (hE : EdgesC) (hO : OrderC) (hF : OfC) (l : List Op3) (v : Value) (w : World) (hI : IsOps w v l) :
    Calls Try.prog 3 #[v] w fun e w' => e = .returned (.bool true) ∧ Below w.heap.size w w' := by
  have HI : Hid (∀ W, Below w.heap.size w W → IsOps W v l) := fun W hW => hI.below hW (Nat.le_refl _)
  have HS := hid_of4 hS
  have HE := hid_of4 hE
  have HO := hid_of4 hO
  have HF := hid_of4 hF
  have HST : Hid (∀ W W', Below w.heap.size w W → Below W.heap.size W W' → Below w.heap.size w W') := fun W W' h1 h2 => h1.trans (h2.mono h1.size)
  have HONE : Hid (∀ W u, IsOps W u [(2, 2, 1), (1, 1, 1)] → Calls Try.prog 5 #[u, .bool false] W fun e w' => ∃ g1 o1 c1 g2 o2 c2, e = .returned (.tuple #[.slice (some ⟨g1, o1, none⟩) 2 c1, .slice (some ⟨g2, o2, none⟩) 1 c2, .nilIface]) ∧ w'.cell? ⟨g2, o2, none⟩ = some (.int .i64 1) ∧ w'.cell? ⟨g1, o1 + 3 + 1, none⟩ = some (.int .i64 4) ∧ Below W.heap.size W w') := fun W u hu => by
    refine (hS [(2, 2, 1), (1, 1, 1)] u false W hu).mono ?_
    rintro e w' ⟨v1, v2, he, hi1, hi2, hb⟩
    have hst : stampU false [(2, 2, 1), (1, 1, 1)] = (([(2, 2, 1), (1, 4, 0)], [1]), 0) := by decide
    rw [hst] at he hi1 hi2
    obtain ⟨a1, b1, o1, c1, rfl, h1, -, -, k1⟩ := hi1
    obtain ⟨a2, b2, o2, c2, rfl, h2, -, -, k2⟩ := hi2
    rw [h1 (by simp), h2 (by simp)] at he
    exact ⟨b1, o1, c1, b2, o2, c2, he, by have := k2 0 (by simp); simpa using this, by have := (k1 1 (by simp)).2.1; simpa using this, hb⟩
  obtain ⟨ad, b, off, cap, hv, -⟩ := hI
  subst hv
  clear hS hE hO hF
  go_enter Try.func3, Try.ntmps3
  go_wp2_with fail
  have HB1 : Hid (Below w.heap.size w (w.alloc (.cells #[.int .i64 2, .int .i64 2, .int .i64 1, .int .i64 1, .int .i64 1, .int .i64 1] 24))) := (Below.refl _ w).alloc (Nat.le_refl _) _
  refine (HONE.out _ _ (two_at w)).mono ?_
  rintro e w2 ⟨g1, o1, c1, g2, o2, c2, rfl, k1, k2, hb2⟩
  have HB2 := hid_of4 (HST.out _ _ HB1.out hb2)
  clear hb2 HB1
  go_wp2_with fail
  go_loopw [7, 8, 9, 10, 11, 12, 13, 14, 15, 16, 17, 18, 19] (fun v7 _ _ _ _ _ _ _ _ _ _ _ _ wr => ∃ i : Nat, i ≤ 2 ∧ v7 = .int .i64 i ∧ Below w.heap.size w wr) (fun v7 _ _ _ _ _ _ _ _ _ _ _ _ _ => 2 - (intOf v7).toNat)
  case atStart => exact ⟨0, by omega, rfl, HB2.out⟩
  case round =>
    obtain ⟨i, hi, rfl, hbel⟩ := hrel
    obtain ⟨WR, hWR⟩ : ∃ W : World, W = wr := ⟨_, rfl⟩
    subst hWR
    clear k1 k2 HB2
    by_cases hi2 : i < 2
    · have hi2' : (i : Int) < 2 := by omega
      obtain ⟨lv, hlv⟩ : ∃ lv : Bool, ((i : Int) == 1) = lv := ⟨_, rfl⟩
      have HRUN : Hid (Calls Try.prog 5 #[.slice ad l.length cap, .bool lv] WR fun e w' => ∃ v1 v2, e = .returned (.tuple #[v1, v2, errV (stampU lv l).2]) ∧ IsOps w' v1 (stampU lv l).1.1 ∧ IsInts w' v2 (stampU lv l).1.2 ∧ Below WR.heap.size WR w') := HS.out l _ lv WR (HI.out WR hbel)
      have HBL := hid_of4 hbel
      clear hbel
      by_cases hc : (chk l).2 = 0
      · rw [stampU_ok hc] at HRUN
        obtain ⟨f1, f2, f3, f4, f5⟩ := stamp_facts lv hc
        obtain ⟨hlt, hlv2⟩ := (stamp_all lv hc).long
        have hl40 := chk_len hc
        obtain ⟨T, hT⟩ : ∃ T, (stampR lv l).told = T := ⟨_, rfl⟩
        obtain ⟨VL, hVL⟩ : ∃ VL, (stampR lv l).vict = VL := ⟨_, rfl⟩
        rw [hT] at f1 f2 f3 f4 f5 hlt
        rw [hVL] at f5 hlv2
        have HRUN2 : Hid (Calls Try.prog 5 #[.slice ad l.length cap, .bool lv] WR fun e w' => ∃ v1 v2, e = .returned (.tuple #[v1, v2, .nilIface]) ∧ IsOps w' v1 T ∧ IsInts w' v2 VL ∧ Below WR.heap.size WR w') := by
          have h1 := HRUN.out
          rw [hT, hVL] at h1
          exact h1
        obtain ⟨DL, hDL⟩ : ∃ DL, dealsL (doneL T) = DL := ⟨_, rfl⟩
        obtain ⟨EL, hEL⟩ : ∃ EL, edgesTo (doneL T) 36 = EL := ⟨_, rfl⟩
        have hel := edgesTo_len (doneL T) 36
        rw [hDL] at f3 f4
        rw [hEL] at f2 hel
        have HEL := hid_of4 hEL
        have HF1 := hid_of4 f1
        have HF2 := hid_of4 f2
        have HF3 := hid_of4 f3
        have HF4 := hid_of4 f4
        have HF5 := hid_of4 f5
        have hvl40 : VL.length ≤ 40 := by omega
        have hdl6 : DL.length ≤ 6 := by
          have hn : DL.Nodup := f4.imp fun h => by omega
          have h2 := hn.length_le_of_subset (l₂ := [1, 2, 3, 4, 5, 6]) fun y hy => by
            rw [← hDL] at hy
            have := mem_deals.1 hy
            simp; omega
          simpa using h2
        clear hc HRUN f1 f2 f3 f4 f5 hlt hlv2 hT hVL hDL hEL
        go_wp2_with fail
        refine HRUN2.out.mono ?_
        rintro e w3 ⟨v1, v2, rfl, hi1, hi2v, hb3⟩
        have HB3 := hid_of4 (HST.out _ _ HBL.out hb3)
        have HT3 : Hid (∀ W, Below w3.heap.size w3 W → IsOps W v1 T) := fun W hW => hi1.below hW (Nat.le_refl _)
        have HV3 : Hid (∀ W, Below w3.heap.size w3 W → IsInts W v2 VL) := fun W hW => hi2v.below hW (Nat.le_refl _)
        obtain ⟨x1, y1, z1, rfl⟩ : ∃ ad n c, v1 = .slice ad n c := by obtain ⟨ad, _, _, cap, hv, _⟩ := hi1; exact ⟨ad, _, cap, hv⟩
        obtain ⟨x2, bb2, off2, z2, rfl, hx2, -, hbb2, hcs2⟩ := hi2v
        have HC2 : Hid (∀ W, Below w3.heap.size w3 W → ∀ k, k < VL.length → x2 = some ⟨bb2, off2, none⟩ ∧ W.cell? ⟨bb2, off2 + k, none⟩ = some (.int .i64 (VL.getD k 0))) := fun W hW k hk => by
          have hb : bb2 < w3.heap.size := by
            rcases hbb2 with h | h
            · exact h
            · subst h; simp at hk
          exact ⟨hx2 (by omega), (hW.cell (p := ⟨bb2, off2 + k, none⟩) hb).trans (hcs2 k hk)⟩
        clear hi1 hb3 HRUN2 HBL hx2 hbb2 hcs2
        go_wp2_with fail
        refine (HE.out T _ w3 (HT3.out w3 (Below.refl _ _)) HF1.out).mono ?_
        rintro e w4 ⟨v4, rfl, he4, hb4⟩
        rw [HEL.out] at he4
        have HB34 := hid_of4 hb4
        obtain ⟨x4, bb4, off4, z4, rfl, hx4, -, hbb4, hcs4⟩ := he4
        have HC4 : Hid (∀ W, Below w4.heap.size w4 W → ∀ k, k < EL.length → x4 = some ⟨bb4, off4, none⟩ ∧ W.cell? ⟨bb4, off4 + k * 2, none⟩ = some (.int .i64 (EL.getD k (0, 0)).1) ∧ W.cell? ⟨bb4, off4 + k * 2 + 1, none⟩ = some (.int .i64 (EL.getD k (0, 0)).2)) := fun W hW k hk => ⟨hx4 (by omega), (hcs4.below hW hbb4) k hk⟩
        clear hb4 hx4 hbb4 hcs4
        go_wp2_with fail
        refine (HO.out T _ DL w4 (HT3.out w4 HB34.out) HF1.out HF3.out).mono ?_
        rintro e w5 ⟨v5, rfl, hi5, hb5⟩
        have HB45 := hid_of4 hb5
        have HB35 := hid_of4 (HB34.out.trans (hb5.mono HB34.out.size))
        obtain ⟨x5, bb5, off5, z5, rfl, hx5, -, hbb5, hcs5⟩ := hi5
        have HC5 : Hid (∀ W, Below w5.heap.size w5 W → ∀ k, k < DL.length → x5 = some ⟨bb5, off5, none⟩ ∧ W.cell? ⟨bb5, off5 + k, none⟩ = some (.int .i64 (DL.getD k 0))) := fun W hW k hk => by
          have hb : bb5 < w5.heap.size := by
            rcases hbb5 with h | h
            · exact h
            · subst h; simp at hk
          exact ⟨hx5 (by omega), (hW.cell (p := ⟨bb5, off5 + k, none⟩) hb).trans (hcs5 k hk)⟩
        clear hb5 hx5 hbb5 hcs5
        go_wp2_with fail
        go_loopw [15] (fun v15 wr => ∃ k : Nat, k ≤ EL.length ∧ v15 = .int .i64 k ∧ Below w5.heap.size w5 wr) (fun v15 _ => EL.length - (intOf v15).toNat)
        case atStart => exact ⟨0, Nat.zero_le _, rfl, Below.refl _ _⟩
        case round =>
          obtain ⟨k, hk, rfl, hbk⟩ := hrel
          by_cases hlt : k < EL.length
          · have hlt' : (k : Int) < (EL.length : Int) := by omega
            obtain ⟨rfl, e0, e1⟩ := HC4.out wr (HB45.out.trans (hbk.mono HB45.out.size)) k hlt
            obtain ⟨⟨a1, a2⟩, ho⟩ : ∃ o : Edge2, EL.getD k (0, 0) = o := ⟨_, rfl⟩
            have hup : a1 < a2 := by
              have h1 := HF2.out (EL.getD k (0, 0)) (by simp [List.getD, List.getElem?_eq_getElem hlt])
              rw [ho] at h1
              exact h1
            rw [ho] at e0 e1
            simp only at e0 e1
            have hge : ¬ a2 ≤ a1 := by omega
            clear ho
            go_wp2_with fail
            go_quiet (fail)
            go_wp2_with fail
            go_roundw
            case rel => exact ⟨k + 1, by omega, by go_num, below_drewN hbk _⟩
            case measure => simp [intOf]; omega
          · have hlt' : ¬ (k : Int) < (EL.length : Int) := by omega
            obtain ⟨WS, hWS⟩ : ∃ W : World, W = wr := ⟨_, rfl⟩
            subst hWS
            have HBS := hid_of4 hbk
            clear hbk
            go_wp2_with fail
            go_loopw [16] (fun v16 wr => ∃ m : Nat, (m ≤ DL.length) ∧ v16 = .int .i64 ((m : Int) + 1) ∧ Below w5.heap.size w5 wr) (fun v16 _ => DL.length + 1 - (intOf v16).toNat)
            case atStart => exact ⟨0, Nat.zero_le _, rfl, HBS.out⟩
            case round =>
              obtain ⟨m, hm, rfl, hbm⟩ := hrel
              by_cases hmt : m + 1 < DL.length
              · have hmt' : (m : Int) + 1 < (DL.length : Int) := by omega
                obtain ⟨rfl, e0⟩ := HC5.out wr hbm m (by omega)
                obtain ⟨-, e1⟩ := HC5.out wr hbm (m + 1) hmt
                have hris := rise_at HF4.out hmt
                obtain ⟨a1, ha1⟩ : ∃ a, DL.getD m 0 = a := ⟨_, rfl⟩
                obtain ⟨a2, ha2⟩ : ∃ a, DL.getD (m + 1) 0 = a := ⟨_, rfl⟩
                rw [ha1, ha2] at hris
                rw [ha1] at e0
                rw [ha2] at e1
                have hle : ¬ a2 ≤ a1 := by omega
                have hsub : (m : Int) + 1 - 1 = (m : Int) := by omega
                have hwm : IntKind.i64.wrap (m : Int) = (m : Int) := by rw [IntKind.wrap_i64]; omega
                clear ha1 ha2
                go_wp2_with fail
                go_quiet (fail)
                go_wp2_with fail
                go_roundw
                case rel => exact ⟨m + 1, by omega, by go_num, below_drewN hbm _⟩
                case measure => simp [intOf]; omega
              · have hmt' : ¬ (m : Int) + 1 < (DL.length : Int) := by omega
                obtain ⟨WT, hWT⟩ : ∃ W : World, W = wr := ⟨_, rfl⟩
                subst hWT
                have HBT := hid_of4 hbm
                clear hbm
                go_wp2_with fail
                go_loopw [17, 18, 19] (fun v17 _ _ wr => ∃ n : Nat, n ≤ VL.length ∧ v17 = .int .i64 n ∧ Below w5.heap.size w5 wr) (fun v17 _ _ _ => VL.length - (intOf v17).toNat)
                case atStart => exact ⟨0, Nat.zero_le _, rfl, HBT.out⟩
                case round =>
                  obtain ⟨n, hn, rfl, hbn⟩ := hrel
                  have hb3n : Below w3.heap.size w3 wr := HB35.out.trans (hbn.mono HB35.out.size)
                  by_cases hnt : n < VL.length
                  · have hnt' : (n : Int) < (VL.length : Int) := by omega
                    obtain ⟨rfl, e0⟩ := HC2.out wr hb3n n hnt
                    obtain ⟨x, hx⟩ : ∃ x, VL.getD n 0 = x := ⟨_, rfl⟩
                    have hxm : x ∈ VL := by rw [← hx]; simp [List.getD, List.getElem?_eq_getElem hnt]
                    rw [hx] at e0
                    obtain ⟨⟨x1', x6⟩, q, hq⟩ := HF5.out x hxm
                    have HX := hid_of4 (And.intro x1' x6)
                    have HQ := hid_of4 hq
                    clear hx hxm x1' x6 hq
                    go_wp2_with fail
                    refine (HF.out T _ x wr (HT3.out wr hb3n) HF1.out HX.out.1 HX.out.2).mono ?_
                    rintro e w6 ⟨v6, rfl, hi6, hb6⟩
                    rw [HQ.out] at hi6
                    obtain ⟨x6', bb6, off6, z6, rfl, hx6, -, -, hcs6⟩ := hi6
                    have hql : q.length ≤ 40 := by
                      have h1 : (ofL T x).length ≤ T.length := List.length_filter_le _ _
                      rw [HQ.out, List.length_append] at h1
                      have h2 := chk_len HF1.out
                      omega
                    have hlast := (hcs6 q.length (by simp)).2.1
                    rw [show (q ++ [(x, (4 : Int), (0 : Int))]).getD q.length (0, 0, 0) = (x, 4, 0) by simp [List.getD]] at hlast
                    have hlen6 : (q ++ [(x, (4 : Int), (0 : Int))]).length = q.length + 1 := by simp
                    have hx6' := hx6 (by simp)
                    rw [hlen6]
                    rw [hx6']
                    have HB6 := hid_of4 (hbn.trans (hb6.mono hbn.size))
                    have hsub : (q.length : Int) + 1 - 1 = (q.length : Int) := by omega
                    have hwq : IntKind.i64.wrap (q.length : Int) = (q.length : Int) := by rw [IntKind.wrap_i64]; omega
                    have hne0 : ((q.length : Int) + 1 == 0) = false := by simp; omega
                    have hqlt : (q.length : Int) < (q.length : Int) + 1 := by omega
                    have hq0 : ¬ (q.length : Int) < 0 := by omega
                    clear hcs6 hx6 hx6' hlen6 hb6 hbn e0
                    go_wp2_with fail
                    go_roundw
                    case rel => exact ⟨n + 1, by omega, by go_num, HB6.out⟩
                    case measure => simp [intOf]; omega
                  · have hnt' : ¬ (n : Int) < (VL.length : Int) := by omega
                    have HBF := hid_of4 (HST.out _ _ HB3.out hb3n)
                    clear hb3n hbn
                    go_wp2_with fail
                    go_roundw
                    case rel => exact ⟨i + 1, by omega, by go_num, HBF.out⟩
                    case measure => simp [intOf]; omega
      · rw [stampU_bad hc, errV_ne hc] at HRUN
        clear hc
        go_wp2_with fail
        refine HRUN.out.mono ?_
        rintro e w3 ⟨v1, v2, rfl, hi1, hi2v, hb3⟩
        obtain ⟨x1, y1, z1, rfl⟩ : ∃ ad n c, v1 = .slice ad n c := by obtain ⟨ad, _, _, cap, hv, _⟩ := hi1; exact ⟨ad, _, cap, hv⟩
        obtain ⟨x2, y2, z2, rfl⟩ : ∃ ad n c, v2 = .slice ad n c := by obtain ⟨ad, _, _, cap, hv, _⟩ := hi2v; exact ⟨ad, _, cap, hv⟩
        have HB3 := hid_of4 (HST.out _ _ HBL.out hb3)
        clear hi1 hi2v hb3
        go_wp2_with fail
        go_ret
        exact ⟨rfl, HB3.out⟩
    · have hi2' : ¬ (i : Int) < 2 := by omega
      have HBL := hid_of4 hbel
      clear hbel
      go_wp2_with fail
      go_ret
      exact ⟨rfl, HBL.out⟩
end Go.Proofs.Ytppbplhpldoccaf
