/-
  PROVED HERE: lanelaw1.GraphTells returns true where the edges are right, and what was there stays as it was.
  Conditions: the variable errors.errorType holds the handle of the type error (the row lists it).
-/
import Derived.Test.YtjaeaanpbdmfgabDoorRefPut
import Derived.Test.YtjaeaanpbdmfgabDoorGTellWalk
namespace Go.Proofs.YtjaeaanpbdmfgabDoor
open Go.RowKit

set_option maxHeartbeats 16000000 in
set_option maxRecDepth 100000 in
theorem gtell_ok (l : List Edge2) (v : Value) (a b : Int) (w : World) (hI : IsEdges w v l) (hc : gchk l = 0) (hg : EtAt w) :
    Calls Tryd.prog 3 #[v, .int .i64 a, .int .i64 b] w fun e w' => e = .returned (.bool true) ∧ Below w.heap.size w w' := by
  have HIE : Hid (∀ W, Below w.heap.size w W → IsEdges W v l ∧ EtAt W) := fun W hW => ⟨hI.below hW (Nat.le_refl _), hg.below hW hg.lt⟩
  have HST : Hid (∀ W W', Below w.heap.size w W → Below W.heap.size W W' → Below w.heap.size w W') := fun W W' h1 h2 => h1.trans (h2.mono h1.size)
  have HC : Hid (gchk l = 0) := hc
  have hl := gchk_len hc
  have HR : Hid (Right l) := gchk_deal hc
  obtain ⟨ad, bb, off, cap, rfl, ha, -, hbB, hops⟩ := hI
  have HE : Hid (∀ W, Below w.heap.size w W → ∀ k, k < l.length → ad = some ⟨bb, off, none⟩ ∧ W.cell? ⟨bb, off + k * 2, none⟩ = some (.int .i64 (l.getD k (0, 0)).1) ∧ W.cell? ⟨bb, off + k * 2 + 1, none⟩ = some (.int .i64 (l.getD k (0, 0)).2)) := fun W hW k hk => ⟨ha (by omega), (hops.below hW hbB) k hk⟩
  clear ha hbB hops hc hg
  go_enter Tryd.func3, Tryd.ntmps3
  go_wp2_with fail
  refine (refGraph_any l _ _ (HIE.out w (Below.refl _ _)).1).mono ?_
  rintro e w1 ⟨rfl, hb1⟩
  rw [HC.out]
  go_wp2_with fail
  refine (gcheck_ok l _ _ (HIE.out _ hb1).1 HC.out).mono ?_
  rintro e w2 ⟨rfl, hq2⟩
  have hb2 := HST.out _ _ hb1 hq2
  go_wp2_with fail
  refine (gerr_ok _).mono ?_
  rintro e wx ⟨rfl, hwx⟩
  rw [hwx]; clear hwx
  clear hb1 hq2
  go_wp2_with fail
  go_loopw [12, 13] (fun v12 v13 wr => ∃ k : Nat, k ≤ l.length ∧ v13 = .int .i64 k ∧ IsInts wr v12 (namedI (l.take k)) ∧ Below w.heap.size w wr) (fun _ v13 _ => l.length - (intOf v13).toNat)
  case atStart => exact ⟨0, Nat.zero_le _, rfl, isInts_nil _, hb2⟩
  case round =>
    clear hb2
    obtain ⟨k, hk, rfl, hN, hb3⟩ := hrel
    have HN : Hid (IsInts wr u12 (namedI (l.take k))) := hN
    clear hN
    by_cases hlt : k < l.length
    · obtain ⟨hadr, c0, c1⟩ := HE.out wr hb3 k hlt
      subst hadr
      obtain ⟨⟨f, t⟩, hft⟩ : ∃ e : Edge2, l.getD k (0, 0) = e := ⟨_, rfl⟩
      have HT : Hid (namedI (l.take (k + 1)) = putL (putL (namedI (l.take k)) f) t) := by
        show namedI (l.take (k + 1)) = putL (putL (namedI (l.take k)) f) t
        rw [show l.take (k + 1) = l.take k ++ [(f, t)] by rw [List.take_succ_eq_append_getElem hlt, ← hft]; simp [List.getD, List.getElem?_eq_getElem hlt], namedI_snoc]
      rw [hft] at c0
      simp only at c0
      clear c1
      go_wp2_with fail
      refine (put_any _ _ _ _ HN.out (by have := named_short hl k; omega)).mono ?_
      rintro e w4 ⟨v4, rfl, hI4, hq4⟩
      have hb4 := HST.out _ _ hb3 hq4
      obtain ⟨_, -, c1⟩ := HE.out w4 hb4 k hlt
      rw [hft] at c1
      simp only at c1
      clear hft
      go_wp2_with fail
      refine (put_any _ _ _ _ hI4 (by have := named_short hl k; have := putL_len (namedI (l.take k)) f; omega)).mono ?_
      rintro e w5 ⟨v5, rfl, hI5, hq5⟩
      have hb5 := HST.out _ _ hb4 hq5
      go_wp2_with fail
      go_roundw
      case rel => exact ⟨k + 1, by omega, by go_num, by rw [HT.out]; exact hI5, hb5⟩
      case measure => simp [intOf]; omega
    · have HNA : Hid (IsInts wr u12 (namedI l)) := by have h1 := HN.out; rw [List.take_of_length_le (by omega)] at h1; exact h1
      have hlt' : ¬ (k : Int) < (l.length : Int) := by omega
      clear HN
      go_wp2_with fail
      refine (sort_any l _ _ _ HNA.out (HIE.out _ hb3).1 HC.out).mono ?_
      rintro e w6 ⟨⟨o, v6, ho, rfl, hI6, hol⟩ | ⟨ho, rfl⟩, hq6⟩
      · have HO : Hid (orderL l = some o) := ho
        have hb6 := HST.out _ _ hb3 hq6
        clear ho hb3 hq6 HNA
        go_wp2_with fail
        refine (order_some l _ _ (HIE.out _ hb6).1 HC.out o HO.out).mono ?_
        rintro e w7 ⟨v7, rfl, hI7, -, hq7⟩
        have hb7 := HST.out _ _ hb6 hq7
        have hI67 := hI6.below hq7 (Nat.le_refl _)
        go_wp2_with fail
        refine (gerr_ok _).mono ?_
        rintro e wx ⟨rfl, hwx⟩
        rw [hwx]; clear hwx
        go_wp2_with fail
        refine (same_ints o _ _ _ hI7 hI67 (by omega)).mono ?_
        rintro e w10 ⟨rfl, hq10⟩
        have hb10 := HST.out _ _ hb7 hq10
        clear hI6 hI67 hI7 hb6 hb7 hq7 hq10
        go_wp2_with fail
        go_loopw [9, 11, 19] (fun v9 v11 v19 wr => ∃ n : Nat, 1 ≤ n ∧ n ≤ 7 ∧ v19 = .int .i64 n ∧ ((v9 = .int .i64 5 ∧ v11 = .slice none 0 0 ∧ ∀ j, 1 ≤ j → j < n → growF (stepsS l) j [] = none) ∨ (v9 = .int .i64 0 ∧ ∃ q, ringL l = some q ∧ IsInts wr v11 (q.map fun (k : Nat) => (k : Int)) ∧ q.length ≤ 6)) ∧ Below w.heap.size w wr) (fun _ _ v19 _ => 7 - (intOf v19).toNat)
        case atStart => exact ⟨1, by omega, by omega, rfl, .inl ⟨rfl, rfl, fun j h1 h2 => absurd h1 (by omega)⟩, hb10⟩
        case round =>
          clear hb10
          obtain ⟨n, hn1, hn7, rfl, hor, hb11⟩ := hrel
          rcases hor with ⟨rfl, rfl, hno⟩ | ⟨rfl, q, hq, hIq, hql⟩
          · have HNO : Hid (∀ j, 1 ≤ j → j < n → growF (stepsS l) j [] = none) := hno
            clear hno
            by_cases hn : n < 7
            · have hn6 : (n : Int) ≤ 6 := by omega
              go_wp2_with fail
              refine (refRing_any l n [] _ n _ _ (by simp) hn1 (by omega) (fun k hk => by cases hk) (isInts_nil _) (HIE.out _ hb11).1 HC.out (fun _ => rfl)).mono ?_
              rintro e w12 ⟨⟨v12, hor⟩, hq12⟩
              have hb12 := HST.out _ _ hb11 hq12
              have HGS : Hid (growF (stepsS l) n [] = growR (stepsS l) n []) := grow_same HNO.out n [] (by simp) rfl (fun k hk => by cases hk)
              rcases hor with ⟨q, hq, rfl, hIq⟩ | ⟨hq, rfl⟩
              · have HQ : Hid (ringL l = some q ∧ q.length ≤ 6) := by
                  have h1 := HGS.out.trans hq
                  have h2 := growF_some n [] q h1
                  simp at h2
                  exact ⟨ring_hit hn1 (by omega) h1 HNO.out, by omega⟩
                clear hq
                go_wp2_with fail
                go_roundw
                case rel => exact ⟨n + 1, by omega, by omega, by go_num, .inr ⟨rfl, q, HQ.out.1, hIq, HQ.out.2⟩, hb12⟩
                case measure => simp [intOf]; omega
              · have HQ : Hid (growF (stepsS l) n [] = none) := HGS.out.trans hq
                clear hq
                go_wp2_with fail
                go_roundw
                case rel =>
                  refine ⟨n + 1, by omega, by omega, by go_num, .inl ⟨rfl, rfl, fun j h1 h2 => ?_⟩, hb12⟩
                  rcases Nat.lt_or_ge j n with h | h
                  · exact HNO.out j h1 h
                  · rw [show j = n by omega]; exact HQ.out
                case measure => simp [intOf]; omega
            · have hn6 : ¬ (n : Int) ≤ 6 := by omega
              have HQ : Hid (ringL l = none) := ring_none fun j h1 h2 => HNO.out j h1 (by omega)
              clear HNO
              go_wp2_with fail
              refine (ring_no l _ _ (HIE.out _ hb11).1 HC.out HQ.out).mono ?_
              rintro e w13 ⟨rfl, hq13⟩
              have hb13 := HST.out _ _ hb11 hq13
              clear hb11 hq13
              go_wp2_with fail
              refine (gerr_same 5 _ (HIE.out _ hb13).2).mono ?_
              rintro e w14 ⟨rfl, hq14⟩
              have hb14 := HST.out _ _ hb13 hq14
              go_wp2_with fail
              refine (same_ints [] _ _ _ (isInts_nil _) (isInts_nil _) (by simp)).mono ?_
              rintro e w20 ⟨rfl, hqw20⟩
              have hb20 := HST.out _ _ hb14 hqw20
              clear hb13 hq14 hb14 hqw20
              go_wp2_with fail
              refine (gTx_any _ _).mono ?_
              rintro e wx ⟨rfl, hwx⟩
              rw [hwx]; clear hwx
              go_wp2_with fail
              refine (gTx_any _ _).mono ?_
              rintro e wx ⟨rfl, hwx⟩
              rw [hwx]; clear hwx
              by_cases hab : dealB a = true ∧ dealB b = true
              · obtain ⟨hA, hB⟩ := hab
                have ha6 := dealB_iff.1 hA
                have hb6 := dealB_iff.1 hB
                obtain ⟨x, rfl⟩ : ∃ x : Nat, a = x := ⟨a.toNat, by omega⟩
                obtain ⟨y, rfl⟩ : ∃ y : Nat, b = y := ⟨b.toNat, by omega⟩
                have HAB : Hid (dealB (x : Int) = true ∧ dealB (y : Int) = true) := ⟨hA, hB⟩
                rw [hA, hB]
                have x7 : (x : Int) < 7 := by omega
                have y7 : (y : Int) < 7 := by omega
                clear hA hB
                go_wp2_with fail
                refine (refWays_any l _ _ (HIE.out _ hb20).1 HR.out hl).mono ?_
                rintro e w21 ⟨rfl, hq21⟩
                have hb21 := HST.out _ _ hb20 hq21
                have hsz21 := hb21.size
                clear hb20 hq21
                go_wp2_with (refine wpList_store_row rfl 40 (.tmp 26) (.tmp 129) rfl w21.heap.size (cells49 (warTo l 6)) rfl rfl 40 (cells49 fun _ _ => false) (matT_fresh _ w21 _ rfl) (mat40_info _) (by rw [cells49_size, cells49_size]) (cells49_one _) ?_; obtain ⟨W, hW⟩ : ∃ W, W = (w21.alloc (.cells (cells49 fun _ _ => false) 40)).setRow w21.heap.size (cells49 (warTo l 6)) := ⟨_, rfl⟩; have hWm : MatT 40 W w21.heap.size (warTo l 6) := (by rw [hW]; exact setRow_heap _ _ _ _ _ _ (matT_fresh _ w21 _ rfl)); have hbW : Below w.heap.size w W := (by rw [hW]; exact below_setRow (hb21.alloc hsz21 _) hsz21 _); have hcW := hWm.cell (i := x) (k := y) (by omega) (by omega); change wpList _ _ _ _ _ ((w21.alloc (.cells (cells49 fun _ _ => false) 40)).setRow w21.heap.size (cells49 (warTo l 6))); rw [← hW]; clear hW)
                refine (reach_any l _ x y _ (HIE.out _ hbW).1 HC.out HAB.out.1 HAB.out.2).mono ?_
                rintro e w22 ⟨z, rfl, hz, hq22⟩
                have hb22 := HST.out _ _ hbW hq22
                have hzz : z = warTo l 6 x y := by
                  rw [Bool.eq_iff_iff, hz, war_way HR.out]
                subst hzz
                obtain ⟨z, hzw⟩ : ∃ z, warTo l 6 x y = z := ⟨_, rfl⟩
                rw [hzw]
                clear hz hzw hcW hWm hbW hq22
                go_wp2_with fail
                refine (gerr_ok _).mono ?_
                rintro e wx ⟨rfl, hwx⟩
                rw [hwx]; clear hwx
                cases z
                all_goals
                  go_wp2_with fail
                  go_ret
                  exact ⟨rfl, hb22⟩
              · have hr : dealB a = false ∨ dealB b = false := by
                  cases hA : dealB a with
                  | false => exact .inl rfl
                  | true =>
                    cases hB : dealB b with
                    | false => exact .inr rfl
                    | true => exact absurd ⟨hA, hB⟩ hab
                have HRR : Hid (dealB a = false ∨ dealB b = false) := hr
                obtain ⟨p, hp⟩ : ∃ p, dealB a = p := ⟨_, rfl⟩
                obtain ⟨q, hq⟩ : ∃ q, dealB b = q := ⟨_, rfl⟩
                rw [hp, hq] at hr ⊢
                clear hp hq hab
                cases p
                all_goals cases q
                all_goals first
                  | (exfalso; simp at hr; done)
                  | (clear hr
                     go_wp2_with fail
                     refine (reach_range l _ _ _ _ (HIE.out _ hb20).1 HC.out HRR.out).mono ?_
                     rintro e w21 ⟨rfl, hq21⟩
                     have hb21 := HST.out _ _ hb20 hq21
                     go_wp2_with fail
                     refine (gerr_same 1 _ (HIE.out _ hb21).2).mono ?_
                     rintro e w22 ⟨rfl, hq22⟩
                     have hb22 := HST.out _ _ hb21 hq22
                     go_wp2_with fail
                     go_ret
                     exact ⟨rfl, hb22⟩)
          · have HQ : Hid (ringL l = some q) := hq
            have HIQ : Hid (IsInts wr u11 (q.map fun (k : Nat) => (k : Int))) := hIq
            clear hq hIq
            by_cases hn : n < 7
            case' pos => have hn6 : (n : Int) ≤ 6 := by omega
            case' neg => have hn6 : ¬ (n : Int) ≤ 6 := by omega
            all_goals
              clear hn
              go_wp2_with fail
              refine (ring_some l _ _ (HIE.out _ hb11).1 HC.out q HQ.out).mono ?_
              rintro e w13 ⟨v13, rfl, hI13, hq13⟩
              have hb13 := HST.out _ _ hb11 hq13
              have HIQ3 := HIQ.out.below hq13 (Nat.le_refl _)
              go_wp2_with fail
              refine (gerr_ok _).mono ?_
              rintro e wx ⟨rfl, hwx⟩
              rw [hwx]; clear hwx
              go_wp2_with fail
              refine (same_ints _ _ _ _ hI13 HIQ3 (by rw [List.length_map]; omega)).mono ?_
              rintro e w20 ⟨rfl, hq20⟩
              have hb20 := HST.out _ _ hb13 hq20
              clear hb11 hq13 hI13 HIQ3 hb13 hq20
              go_wp2_with fail
              refine (gTx_any _ _).mono ?_
              rintro e wx ⟨rfl, hwx⟩
              rw [hwx]; clear hwx
              go_wp2_with fail
              refine (gTx_any _ _).mono ?_
              rintro e wx ⟨rfl, hwx⟩
              rw [hwx]; clear hwx
              by_cases hab : dealB a = true ∧ dealB b = true
              · obtain ⟨hA, hB⟩ := hab
                have ha6 := dealB_iff.1 hA
                have hb6 := dealB_iff.1 hB
                obtain ⟨x, rfl⟩ : ∃ x : Nat, a = x := ⟨a.toNat, by omega⟩
                obtain ⟨y, rfl⟩ : ∃ y : Nat, b = y := ⟨b.toNat, by omega⟩
                have HAB : Hid (dealB (x : Int) = true ∧ dealB (y : Int) = true) := ⟨hA, hB⟩
                rw [hA, hB]
                have x7 : (x : Int) < 7 := by omega
                have y7 : (y : Int) < 7 := by omega
                clear hA hB
                go_wp2_with fail
                refine (refWays_any l _ _ (HIE.out _ hb20).1 HR.out hl).mono ?_
                rintro e w21 ⟨rfl, hq21⟩
                have hb21 := HST.out _ _ hb20 hq21
                have hsz21 := hb21.size
                clear hb20 hq21
                go_wp2_with (refine wpList_store_row rfl 40 (.tmp 26) (.tmp 129) rfl w21.heap.size (cells49 (warTo l 6)) rfl rfl 40 (cells49 fun _ _ => false) (matT_fresh _ w21 _ rfl) (mat40_info _) (by rw [cells49_size, cells49_size]) (cells49_one _) ?_; obtain ⟨W, hW⟩ : ∃ W, W = (w21.alloc (.cells (cells49 fun _ _ => false) 40)).setRow w21.heap.size (cells49 (warTo l 6)) := ⟨_, rfl⟩; have hWm : MatT 40 W w21.heap.size (warTo l 6) := (by rw [hW]; exact setRow_heap _ _ _ _ _ _ (matT_fresh _ w21 _ rfl)); have hbW : Below w.heap.size w W := (by rw [hW]; exact below_setRow (hb21.alloc hsz21 _) hsz21 _); have hcW := hWm.cell (i := x) (k := y) (by omega) (by omega); change wpList _ _ _ _ _ ((w21.alloc (.cells (cells49 fun _ _ => false) 40)).setRow w21.heap.size (cells49 (warTo l 6))); rw [← hW]; clear hW)
                refine (reach_any l _ x y _ (HIE.out _ hbW).1 HC.out HAB.out.1 HAB.out.2).mono ?_
                rintro e w22 ⟨z, rfl, hz, hq22⟩
                have hb22 := HST.out _ _ hbW hq22
                have hzz : z = warTo l 6 x y := by
                  rw [Bool.eq_iff_iff, hz, war_way HR.out]
                subst hzz
                obtain ⟨z, hzw⟩ : ∃ z, warTo l 6 x y = z := ⟨_, rfl⟩
                rw [hzw]
                clear hz hzw hcW hWm hbW hq22
                go_wp2_with fail
                refine (gerr_ok _).mono ?_
                rintro e wx ⟨rfl, hwx⟩
                rw [hwx]; clear hwx
                cases z
                all_goals
                  go_wp2_with fail
                  go_ret
                  exact ⟨rfl, hb22⟩
              · have hr : dealB a = false ∨ dealB b = false := by
                  cases hA : dealB a with
                  | false => exact .inl rfl
                  | true =>
                    cases hB : dealB b with
                    | false => exact .inr rfl
                    | true => exact absurd ⟨hA, hB⟩ hab
                have HRR : Hid (dealB a = false ∨ dealB b = false) := hr
                obtain ⟨p, hp⟩ : ∃ p, dealB a = p := ⟨_, rfl⟩
                obtain ⟨q, hq⟩ : ∃ q, dealB b = q := ⟨_, rfl⟩
                rw [hp, hq] at hr ⊢
                clear hp hq hab
                cases p
                all_goals cases q
                all_goals first
                  | (exfalso; simp at hr; done)
                  | (clear hr
                     go_wp2_with fail
                     refine (reach_range l _ _ _ _ (HIE.out _ hb20).1 HC.out HRR.out).mono ?_
                     rintro e w21 ⟨rfl, hq21⟩
                     have hb21 := HST.out _ _ hb20 hq21
                     go_wp2_with fail
                     refine (gerr_same 1 _ (HIE.out _ hb21).2).mono ?_
                     rintro e w22 ⟨rfl, hq22⟩
                     have hb22 := HST.out _ _ hb21 hq22
                     go_wp2_with fail
                     go_ret
                     exact ⟨rfl, hb22⟩)
      · have HO : Hid (orderL l = none) := ho
        have hb6 := HST.out _ _ hb3 hq6
        clear ho hb3 hq6 HNA
        go_wp2_with fail
        refine (order_none l _ _ (HIE.out _ hb6).1 HC.out HO.out).mono ?_
        rintro e w7 ⟨rfl, hq7⟩
        have hb7 := HST.out _ _ hb6 hq7
        go_wp2_with fail
        refine (gerr_same 8 _ (HIE.out _ hb7).2).mono ?_
        rintro e w8 ⟨rfl, hq8⟩
        have hb8 := HST.out _ _ hb7 hq8
        go_wp2_with fail
        refine (same_ints [] _ _ _ (isInts_nil _) (isInts_nil _) (by simp)).mono ?_
        rintro e w10 ⟨rfl, hqw10⟩
        have hb10 := HST.out _ _ hb8 hqw10
        clear hb6 hb7 hq7 hb8 hq8 hqw10
        go_wp2_with fail
        go_loopw [9, 11, 19] (fun v9 v11 v19 wr => ∃ n : Nat, 1 ≤ n ∧ n ≤ 7 ∧ v19 = .int .i64 n ∧ ((v9 = .int .i64 5 ∧ v11 = .slice none 0 0 ∧ ∀ j, 1 ≤ j → j < n → growF (stepsS l) j [] = none) ∨ (v9 = .int .i64 0 ∧ ∃ q, ringL l = some q ∧ IsInts wr v11 (q.map fun (k : Nat) => (k : Int)) ∧ q.length ≤ 6)) ∧ Below w.heap.size w wr) (fun _ _ v19 _ => 7 - (intOf v19).toNat)
        case atStart => exact ⟨1, by omega, by omega, rfl, .inl ⟨rfl, rfl, fun j h1 h2 => absurd h1 (by omega)⟩, hb10⟩
        case round =>
          clear hb10
          obtain ⟨n, hn1, hn7, rfl, hor, hb11⟩ := hrel
          rcases hor with ⟨rfl, rfl, hno⟩ | ⟨rfl, q, hq, hIq, hql⟩
          · have HNO : Hid (∀ j, 1 ≤ j → j < n → growF (stepsS l) j [] = none) := hno
            clear hno
            by_cases hn : n < 7
            · have hn6 : (n : Int) ≤ 6 := by omega
              go_wp2_with fail
              refine (refRing_any l n [] _ n _ _ (by simp) hn1 (by omega) (fun k hk => by cases hk) (isInts_nil _) (HIE.out _ hb11).1 HC.out (fun _ => rfl)).mono ?_
              rintro e w12 ⟨⟨v12, hor⟩, hq12⟩
              have hb12 := HST.out _ _ hb11 hq12
              have HGS : Hid (growF (stepsS l) n [] = growR (stepsS l) n []) := grow_same HNO.out n [] (by simp) rfl (fun k hk => by cases hk)
              rcases hor with ⟨q, hq, rfl, hIq⟩ | ⟨hq, rfl⟩
              · have HQ : Hid (ringL l = some q ∧ q.length ≤ 6) := by
                  have h1 := HGS.out.trans hq
                  have h2 := growF_some n [] q h1
                  simp at h2
                  exact ⟨ring_hit hn1 (by omega) h1 HNO.out, by omega⟩
                clear hq
                go_wp2_with fail
                go_roundw
                case rel => exact ⟨n + 1, by omega, by omega, by go_num, .inr ⟨rfl, q, HQ.out.1, hIq, HQ.out.2⟩, hb12⟩
                case measure => simp [intOf]; omega
              · have HQ : Hid (growF (stepsS l) n [] = none) := HGS.out.trans hq
                clear hq
                go_wp2_with fail
                go_roundw
                case rel =>
                  refine ⟨n + 1, by omega, by omega, by go_num, .inl ⟨rfl, rfl, fun j h1 h2 => ?_⟩, hb12⟩
                  rcases Nat.lt_or_ge j n with h | h
                  · exact HNO.out j h1 h
                  · rw [show j = n by omega]; exact HQ.out
                case measure => simp [intOf]; omega
            · have hn6 : ¬ (n : Int) ≤ 6 := by omega
              have HQ : Hid (ringL l = none) := ring_none fun j h1 h2 => HNO.out j h1 (by omega)
              clear HNO
              go_wp2_with fail
              refine (ring_no l _ _ (HIE.out _ hb11).1 HC.out HQ.out).mono ?_
              rintro e w13 ⟨rfl, hq13⟩
              have hb13 := HST.out _ _ hb11 hq13
              clear hb11 hq13
              go_wp2_with fail
              refine (gerr_same 5 _ (HIE.out _ hb13).2).mono ?_
              rintro e w14 ⟨rfl, hq14⟩
              have hb14 := HST.out _ _ hb13 hq14
              go_wp2_with fail
              refine (same_ints [] _ _ _ (isInts_nil _) (isInts_nil _) (by simp)).mono ?_
              rintro e w20 ⟨rfl, hqw20⟩
              have hb20 := HST.out _ _ hb14 hqw20
              clear hb13 hq14 hb14 hqw20
              go_wp2_with fail
              refine (gTx_any _ _).mono ?_
              rintro e wx ⟨rfl, hwx⟩
              rw [hwx]; clear hwx
              go_wp2_with fail
              refine (gTx_any _ _).mono ?_
              rintro e wx ⟨rfl, hwx⟩
              rw [hwx]; clear hwx
              by_cases hab : dealB a = true ∧ dealB b = true
              · obtain ⟨hA, hB⟩ := hab
                have ha6 := dealB_iff.1 hA
                have hb6 := dealB_iff.1 hB
                obtain ⟨x, rfl⟩ : ∃ x : Nat, a = x := ⟨a.toNat, by omega⟩
                obtain ⟨y, rfl⟩ : ∃ y : Nat, b = y := ⟨b.toNat, by omega⟩
                have HAB : Hid (dealB (x : Int) = true ∧ dealB (y : Int) = true) := ⟨hA, hB⟩
                rw [hA, hB]
                have x7 : (x : Int) < 7 := by omega
                have y7 : (y : Int) < 7 := by omega
                clear hA hB
                go_wp2_with fail
                refine (refWays_any l _ _ (HIE.out _ hb20).1 HR.out hl).mono ?_
                rintro e w21 ⟨rfl, hq21⟩
                have hb21 := HST.out _ _ hb20 hq21
                have hsz21 := hb21.size
                clear hb20 hq21
                go_wp2_with (refine wpList_store_row rfl 40 (.tmp 26) (.tmp 129) rfl w21.heap.size (cells49 (warTo l 6)) rfl rfl 40 (cells49 fun _ _ => false) (matT_fresh _ w21 _ rfl) (mat40_info _) (by rw [cells49_size, cells49_size]) (cells49_one _) ?_; obtain ⟨W, hW⟩ : ∃ W, W = (w21.alloc (.cells (cells49 fun _ _ => false) 40)).setRow w21.heap.size (cells49 (warTo l 6)) := ⟨_, rfl⟩; have hWm : MatT 40 W w21.heap.size (warTo l 6) := (by rw [hW]; exact setRow_heap _ _ _ _ _ _ (matT_fresh _ w21 _ rfl)); have hbW : Below w.heap.size w W := (by rw [hW]; exact below_setRow (hb21.alloc hsz21 _) hsz21 _); have hcW := hWm.cell (i := x) (k := y) (by omega) (by omega); change wpList _ _ _ _ _ ((w21.alloc (.cells (cells49 fun _ _ => false) 40)).setRow w21.heap.size (cells49 (warTo l 6))); rw [← hW]; clear hW)
                refine (reach_any l _ x y _ (HIE.out _ hbW).1 HC.out HAB.out.1 HAB.out.2).mono ?_
                rintro e w22 ⟨z, rfl, hz, hq22⟩
                have hb22 := HST.out _ _ hbW hq22
                have hzz : z = warTo l 6 x y := by
                  rw [Bool.eq_iff_iff, hz, war_way HR.out]
                subst hzz
                obtain ⟨z, hzw⟩ : ∃ z, warTo l 6 x y = z := ⟨_, rfl⟩
                rw [hzw]
                clear hz hzw hcW hWm hbW hq22
                go_wp2_with fail
                refine (gerr_ok _).mono ?_
                rintro e wx ⟨rfl, hwx⟩
                rw [hwx]; clear hwx
                cases z
                all_goals
                  go_wp2_with fail
                  go_ret
                  exact ⟨rfl, hb22⟩
              · have hr : dealB a = false ∨ dealB b = false := by
                  cases hA : dealB a with
                  | false => exact .inl rfl
                  | true =>
                    cases hB : dealB b with
                    | false => exact .inr rfl
                    | true => exact absurd ⟨hA, hB⟩ hab
                have HRR : Hid (dealB a = false ∨ dealB b = false) := hr
                obtain ⟨p, hp⟩ : ∃ p, dealB a = p := ⟨_, rfl⟩
                obtain ⟨q, hq⟩ : ∃ q, dealB b = q := ⟨_, rfl⟩
                rw [hp, hq] at hr ⊢
                clear hp hq hab
                cases p
                all_goals cases q
                all_goals first
                  | (exfalso; simp at hr; done)
                  | (clear hr
                     go_wp2_with fail
                     refine (reach_range l _ _ _ _ (HIE.out _ hb20).1 HC.out HRR.out).mono ?_
                     rintro e w21 ⟨rfl, hq21⟩
                     have hb21 := HST.out _ _ hb20 hq21
                     go_wp2_with fail
                     refine (gerr_same 1 _ (HIE.out _ hb21).2).mono ?_
                     rintro e w22 ⟨rfl, hq22⟩
                     have hb22 := HST.out _ _ hb21 hq22
                     go_wp2_with fail
                     go_ret
                     exact ⟨rfl, hb22⟩)
          · have HQ : Hid (ringL l = some q) := hq
            have HIQ : Hid (IsInts wr u11 (q.map fun (k : Nat) => (k : Int))) := hIq
            clear hq hIq
            by_cases hn : n < 7
            case' pos => have hn6 : (n : Int) ≤ 6 := by omega
            case' neg => have hn6 : ¬ (n : Int) ≤ 6 := by omega
            all_goals
              clear hn
              go_wp2_with fail
              refine (ring_some l _ _ (HIE.out _ hb11).1 HC.out q HQ.out).mono ?_
              rintro e w13 ⟨v13, rfl, hI13, hq13⟩
              have hb13 := HST.out _ _ hb11 hq13
              have HIQ3 := HIQ.out.below hq13 (Nat.le_refl _)
              go_wp2_with fail
              refine (gerr_ok _).mono ?_
              rintro e wx ⟨rfl, hwx⟩
              rw [hwx]; clear hwx
              go_wp2_with fail
              refine (same_ints _ _ _ _ hI13 HIQ3 (by rw [List.length_map]; omega)).mono ?_
              rintro e w20 ⟨rfl, hq20⟩
              have hb20 := HST.out _ _ hb13 hq20
              clear hb11 hq13 hI13 HIQ3 hb13 hq20
              go_wp2_with fail
              refine (gTx_any _ _).mono ?_
              rintro e wx ⟨rfl, hwx⟩
              rw [hwx]; clear hwx
              go_wp2_with fail
              refine (gTx_any _ _).mono ?_
              rintro e wx ⟨rfl, hwx⟩
              rw [hwx]; clear hwx
              by_cases hab : dealB a = true ∧ dealB b = true
              · obtain ⟨hA, hB⟩ := hab
                have ha6 := dealB_iff.1 hA
                have hb6 := dealB_iff.1 hB
                obtain ⟨x, rfl⟩ : ∃ x : Nat, a = x := ⟨a.toNat, by omega⟩
                obtain ⟨y, rfl⟩ : ∃ y : Nat, b = y := ⟨b.toNat, by omega⟩
                have HAB : Hid (dealB (x : Int) = true ∧ dealB (y : Int) = true) := ⟨hA, hB⟩
                rw [hA, hB]
                have x7 : (x : Int) < 7 := by omega
                have y7 : (y : Int) < 7 := by omega
                clear hA hB
                go_wp2_with fail
                refine (refWays_any l _ _ (HIE.out _ hb20).1 HR.out hl).mono ?_
                rintro e w21 ⟨rfl, hq21⟩
                have hb21 := HST.out _ _ hb20 hq21
                have hsz21 := hb21.size
                clear hb20 hq21
                go_wp2_with (refine wpList_store_row rfl 40 (.tmp 26) (.tmp 129) rfl w21.heap.size (cells49 (warTo l 6)) rfl rfl 40 (cells49 fun _ _ => false) (matT_fresh _ w21 _ rfl) (mat40_info _) (by rw [cells49_size, cells49_size]) (cells49_one _) ?_; obtain ⟨W, hW⟩ : ∃ W, W = (w21.alloc (.cells (cells49 fun _ _ => false) 40)).setRow w21.heap.size (cells49 (warTo l 6)) := ⟨_, rfl⟩; have hWm : MatT 40 W w21.heap.size (warTo l 6) := (by rw [hW]; exact setRow_heap _ _ _ _ _ _ (matT_fresh _ w21 _ rfl)); have hbW : Below w.heap.size w W := (by rw [hW]; exact below_setRow (hb21.alloc hsz21 _) hsz21 _); have hcW := hWm.cell (i := x) (k := y) (by omega) (by omega); change wpList _ _ _ _ _ ((w21.alloc (.cells (cells49 fun _ _ => false) 40)).setRow w21.heap.size (cells49 (warTo l 6))); rw [← hW]; clear hW)
                refine (reach_any l _ x y _ (HIE.out _ hbW).1 HC.out HAB.out.1 HAB.out.2).mono ?_
                rintro e w22 ⟨z, rfl, hz, hq22⟩
                have hb22 := HST.out _ _ hbW hq22
                have hzz : z = warTo l 6 x y := by
                  rw [Bool.eq_iff_iff, hz, war_way HR.out]
                subst hzz
                obtain ⟨z, hzw⟩ : ∃ z, warTo l 6 x y = z := ⟨_, rfl⟩
                rw [hzw]
                clear hz hzw hcW hWm hbW hq22
                go_wp2_with fail
                refine (gerr_ok _).mono ?_
                rintro e wx ⟨rfl, hwx⟩
                rw [hwx]; clear hwx
                cases z
                all_goals
                  go_wp2_with fail
                  go_ret
                  exact ⟨rfl, hb22⟩
              · have hr : dealB a = false ∨ dealB b = false := by
                  cases hA : dealB a with
                  | false => exact .inl rfl
                  | true =>
                    cases hB : dealB b with
                    | false => exact .inr rfl
                    | true => exact absurd ⟨hA, hB⟩ hab
                have HRR : Hid (dealB a = false ∨ dealB b = false) := hr
                obtain ⟨p, hp⟩ : ∃ p, dealB a = p := ⟨_, rfl⟩
                obtain ⟨q, hq⟩ : ∃ q, dealB b = q := ⟨_, rfl⟩
                rw [hp, hq] at hr ⊢
                clear hp hq hab
                cases p
                all_goals cases q
                all_goals first
                  | (exfalso; simp at hr; done)
                  | (clear hr
                     go_wp2_with fail
                     refine (reach_range l _ _ _ _ (HIE.out _ hb20).1 HC.out HRR.out).mono ?_
                     rintro e w21 ⟨rfl, hq21⟩
                     have hb21 := HST.out _ _ hb20 hq21
                     go_wp2_with fail
                     refine (gerr_same 1 _ (HIE.out _ hb21).2).mono ?_
                     rintro e w22 ⟨rfl, hq22⟩
                     have hb22 := HST.out _ _ hb21 hq22
                     go_wp2_with fail
                     go_ret
                     exact ⟨rfl, hb22⟩)
end Go.Proofs.YtjaeaanpbdmfgabDoor
