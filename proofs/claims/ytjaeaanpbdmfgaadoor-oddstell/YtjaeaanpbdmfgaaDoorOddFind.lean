/-
  PROVED HERE: odds.find tells whether two right lists have the same names, and where each name of the one stands in the other. Old memory stays as it was.
  Conditions: none.
-/
import Derived.Test.YtjaeaanpbdmfgaaDoorOddKey
import Derived.Deep.Cut
namespace Go.Proofs.YtjaeaanpbdmfgaaDoor
open Go.RowKit Go.Maps

theorem fZero (w : World) : (zeroValue 3).run Tryd.prog w = .ok (.int .i64 0) w := by kernel_rfl
/-- What the map holds when k names are in. -/
def Places (D : DataW Unit) (g : List Op3) (k : Nat) : Prop :=
  ∀ n : Nm, Small n → (∀ i, i < k → nameAt g i = n → Maps.has D (nmL n) = true ∧ D.atKey (nmL n) (.lit (.int .i64 0)) = .lit (.int .i64 (i : Int))) ∧ ((∀ i, i < k → nameAt g i ≠ n) → Maps.has D (nmL n) = false)
theorem places_start (g : List Op3) : Places (.map []) g 0 := fun n _ => ⟨fun i hi => absurd hi (by omega), fun _ => rfl⟩
theorem places_step {D : DataW Unit} {g : List Op3} {k : Nat} (hm : IsMap D) (hk : k < g.length) (hs : Small (nameAt g k)) (h : Places D g k) : Places (D.put (nmL (nameAt g k)) (.lit (.int .i64 (k : Int)))) g (k + 1) := by
  intro n hn
  by_cases he : nameAt g k = n
  · subst he
    refine ⟨fun i hi hin => ⟨has_put_same hm (fLaw.key (nm_key _ hn)) _, ?_⟩, fun hno => absurd rfl (hno k (by omega))⟩
    rw [atKey_put_same hm (fLaw.key (nm_key _ hn)), name_inj (by omega) hk hin]
  · have hne : nmL n ≠ nmL (nameAt g k) := fun hh => he (nm_inj hs hn hh.symm)
    rw [has_put_other hne, atKey_put_other hne]
    obtain ⟨h1, h2⟩ := h n hn
    refine ⟨fun i hi hin => h1 i ?_ hin, fun hno => h2 fun i hi => hno i (by omega)⟩
    rcases Nat.lt_or_ge i k with h3 | h3
    · exact h3
    · exact absurd (show nameAt g k = n by rw [show k = i by omega]; exact hin) he

theorem find_len (h g : List Op3) (v u : Value) (w : World) (hI : IsOps w v h) (hJ : IsOps w u g) (hne : h.length ≠ g.length) :
    Calls Tryd.prog 56 #[v, u] w fun e w' => e = .returned (.tuple #[.slice none 0 0, .bool false]) ∧ w' = w := by
  obtain ⟨ad, b, off, cap, rfl, _⟩ := hI
  obtain ⟨ad2, b2, off2, cap2, rfl, _⟩ := hJ
  have hb : (((h.length : Nat) : Int) != ((g.length : Nat) : Int)) = true := by simp; omega
  go_enter Tryd.func56, Tryd.ntmps56
  go_wp2
  all_goals first | (exfalso; omega) | skip
  go_ret2
  exact ⟨rfl, rfl⟩
set_option maxHeartbeats 8000000 in
set_option maxRecDepth 100000 in
theorem find_any (h g : List Op3) (v u : Value) (w : World) (hI : IsOps w v h) (hJ : IsOps w u g) (heq : h.length = g.length) (hc : (chk h).2 = 0) (hd : (chk g).2 = 0) :
    Calls Tryd.prog 56 #[v, u] w fun e w' => ((Named h g ∧ ∃ v', e = .returned (.tuple #[v', .bool true]) ∧ IsInts w' v' ((List.range h.length).map fun i => (spot h g i : Int))) ∨ (¬ Named h g ∧ e = .returned (.tuple #[.slice none 0 0, .bool false]))) ∧ Below w.heap.size w w' := by
  have hl := chk_len hc
  have HI0 : Hid (IsOps w v h) := hI
  have HJ0 : Hid (IsOps w u g) := hJ
  have HSM : Hid ((∀ i, i < h.length → Small (nameAt h i)) ∧ (∀ i, i < g.length → Small (nameAt g i))) := ⟨fun i hi => small_name hl (chk_ops hc) hi, fun i hi => small_name (chk_len hd) (chk_ops hd) hi⟩
  obtain ⟨ad, b, off, cap, rfl, _⟩ := hI
  obtain ⟨ad2, b2, off2, cap2, rfl, _⟩ := hJ
  have hmm := @run_makeMap Tryd.prog
  obtain ⟨i0, hi, hz0, hs0, hy0⟩ := info_parts infoInt
  have HI : Hid (Tryd.prog.info? 3 = some i0 ∧ i0.zero = some (.int .i64 0) ∧ i0.size = 1 ∧ i0.bytes = 8) := ⟨hi, hz0, hs0, hy0⟩
  clear hi hz0 hs0 hy0
  have HT : Hid ((∀ o ∈ h, 1 ≤ o.1 ∧ o.1 ≤ 6) ∧ (∀ o ∈ g, 1 ≤ o.1 ∧ o.1 ≤ 6)) := ⟨fun o ho => isOp_tx (chk_ops hc o ho), fun o ho => isOp_tx (chk_ops hd o ho)⟩
  have hl2 := chk_len hd
  obtain ⟨M, hM⟩ : ∃ M, M = w.heap.size := ⟨_, rfl⟩
  have HM : Hid (M = w.heap.size) := hM
  clear hc hd hM
  go_enter Tryd.func56, Tryd.ntmps56
  go_wp2_with fail
  rw [← HM.out]
  have hA : Below w.heap.size w (w.alloc (.map #[] 0)) := (Below.refl _ w).alloc (Nat.le_refl _) _
  refine (onames_any g _ _ (HJ0.out.below hA (Nat.le_refl _)) hl2 HT.out.2).mono ?_
  rintro e w1 ⟨v1, rfl, hN1, hb1⟩
  have hmap1 : w1.ownsMap Tryd.prog 106 (plainElem (H := Unit) Tryd.prog 3) M 0 (.map []) := by
    have h0 := World.ownsMap_made w Tryd.prog 106 (plainElem (H := Unit) Tryd.prog 3)
    rw [← HM.out] at h0
    exact h0.kept (grown_of_below (row := none) hb1) (by simp)
  have hbw1 : Below w.heap.size w w1 := hA.trans (hb1.mono (by simp))
  have hM1 : M < w1.heap.size := hmap1.lt
  have HMAP1 : Hid (w1.ownsMap Tryd.prog 106 (plainElem (H := Unit) Tryd.prog 3) M 0 (.map [])) := hmap1
  obtain ⟨es, clock, hes⟩ := map_block hmap1
  obtain ⟨ad3, b3, off3, cap3, rfl, hcel1⟩ := names_cells hN1 hes (namesTo_len g g.length)
  have HC1 : Hid (∀ W, w1.grownBy W (some M) → ∀ k, k < g.length → ad3 = some ⟨b3, off3, none⟩ ∧ W.cell? ⟨b3, off3 + k * 4, none⟩ = some (.int .i64 (nameAt g k).1.1) ∧ W.cell? ⟨b3, off3 + k * 4 + 1, none⟩ = some (.int .i64 (nameAt g k).1.2.1) ∧ W.cell? ⟨b3, off3 + k * 4 + 2, none⟩ = some (.int .i64 (nameAt g k).1.2.2) ∧ W.cell? ⟨b3, off3 + k * 4 + 3, none⟩ = some (.int .i64 (nameAt g k).2)) := fun W hW k hk => by
    have := hcel1 W hW k hk
    rw [nmAt_names g _ k hk] at this
    exact this
  clear hcel1 hN1 hb1 hA hes hmap1
  go_wp2_with fail
  go_loopw [23] (fun v23 wr => ∃ (k : Nat) (D : DataW Unit), k ≤ g.length ∧ v23 = .int .i64 k ∧ wr.ownsMap Tryd.prog 106 (plainElem (H := Unit) Tryd.prog 3) M k D ∧ Places D g k ∧ w1.grownBy wr (some M)) (fun v23 _ => g.length - (intOf v23).toNat)
  case atStart => exact ⟨0, _, Nat.zero_le _, rfl, HMAP1.out, places_start g, grown_of_below (Below.refl _ _)⟩
  case round =>
    obtain ⟨k, D, hk, rfl, hown, hpl, hgr⟩ := hrel
    have hgs := hgr.size
    by_cases hlt : k < g.length
    · obtain ⟨rfl, c0, c1, c2, c3⟩ := HC1.out wr hgr k hlt
      have HKEY : Hid (keyOf Tryd.prog 106 (nmV (nameAt g k)) = some (nmL (nameAt g k))) := nm_key _ (HSM.out.2 k hlt)
      have HPS : Hid (Places (D.put (nmL (nameAt g k)) (.lit (.int .i64 (k : Int)))) g (k + 1)) := places_step hown.isMap hlt (HSM.out.2 k hlt) hpl
      obtain ⟨⟨⟨t, a, x⟩, m⟩, hnm⟩ : ∃ n, nameAt g k = n := ⟨_, rfl⟩
      rw [hnm] at c0 c1 c2 c3
      have HK2 : Hid (keyOf Tryd.prog 106 (.agg #[.int .i64 t, .int .i64 a, .int .i64 x, .int .i64 m]) = some (nmL ((t, a, x), m))) := by
        have := HKEY.out
        rw [hnm] at this
        exact this
      have HPS2 : Hid (Places (D.put (nmL ((t, a, x), m)) (.lit (.int .i64 (k : Int)))) g (k + 1)) := by
        have := HPS.out
        rw [hnm] at this
        exact this
      have HOWN : Hid (wr.ownsMap Tryd.prog 106 (plainElem (H := Unit) Tryd.prog 3) M k D) := hown
      have hwf : (Lit.int .i64 (k : Int)).wf = true := wf_small (by omega) (by omega)
      have HWF : Hid ((Lit.int .i64 (k : Int)).wf = true) := hwf
      clear hnm HKEY HPS hown hpl hwf
      simp only at c0 c1 c2 c3
      go_wp2_with (at_mapUpdate; refine wpList_mapUpdate_own (H := Unit) _ rfl (.tmp 28) (.tmp 29) (.tmp 30) 102 rfl 106 3 fLaw Tryd.underlying102 (plainElem (H := Unit) Tryd.prog 3) M k D rfl (HOWN.out.alloc _) (by unfold maxLen; omega) (.agg #[.int .i64 t, .int .i64 a, .int .i64 x, .int .i64 m]) (.int .i64 k) (nmL ((t, a, x), m)) rfl rfl HK2.out (.lit (.int .i64 (k : Int))) [] (plainElem_int Tryd.underlying3 HWF.out) ?_; intro w2 hown2 hgr2)
      go_roundw
      case rel => exact ⟨k + 1, _, by omega, by go_num, hown2, HPS2.out, (hgr.trans (World.grownBy_alloc _ _ _)).trans hgr2⟩
      case measure => simp [intOf]; omega
    · obtain rfl : k = g.length := by omega
      have hbw2 : Below w.heap.size w wr := ⟨hgr.os.trans hbw1.os, hgr.tape.trans hbw1.tape, hgr.output.trans hbw1.output, Nat.le_trans hbw1.size hgr.size, fun j hj => (hgr.block j (Nat.lt_of_lt_of_le hj hbw1.size) (fun he => by have := Option.some.inj he; have := HM.out; omega)).trans (hbw1.block j hj)⟩
      have HOWN : Hid (wr.ownsMap Tryd.prog 106 (plainElem (H := Unit) Tryd.prog 3) M g.length D) := hown
      have HPL : Hid (Places D g g.length) := hpl
      clear hown hpl hgr HMAP1 HC1 hbw1 hgs
      go_wp2_with fail
      have HI1 : Hid (IsOps wr (.slice ad g.length cap) h) := by
        show IsOps wr (.slice ad g.length cap) h
        rw [← heq]
        exact HI0.out.below hbw2 (Nat.le_refl _)
      refine (onames_any h (.slice ad g.length cap) wr HI1.out hl HT.out.1).mono ?_
      rintro e w3 ⟨v3, rfl, hN3, hb3⟩
      have hmap3 : w3.ownsMap Tryd.prog 106 (plainElem (H := Unit) Tryd.prog 3) M g.length D := HOWN.out.kept (grown_of_below (row := none) hb3) (by simp)
      have HMAP3 : Hid (w3.ownsMap Tryd.prog 106 (plainElem (H := Unit) Tryd.prog 3) M g.length D) := hmap3
      have hbw3 : Below w.heap.size w w3 := hbw2.trans (hb3.mono hbw2.size)
      obtain ⟨es, clock, hes⟩ := map_block hmap3
      obtain ⟨ad4, b4, off4, cap4, rfl, hcel3⟩ := names_cells hN3 hes ((namesTo_len h h.length).trans heq)
      have HC3 : Hid (∀ W, Below w3.heap.size w3 W → ∀ k, k < g.length → ad4 = some ⟨b4, off4, none⟩ ∧ W.cell? ⟨b4, off4 + k * 4, none⟩ = some (.int .i64 (nameAt h k).1.1) ∧ W.cell? ⟨b4, off4 + k * 4 + 1, none⟩ = some (.int .i64 (nameAt h k).1.2.1) ∧ W.cell? ⟨b4, off4 + k * 4 + 2, none⟩ = some (.int .i64 (nameAt h k).1.2.2) ∧ W.cell? ⟨b4, off4 + k * 4 + 3, none⟩ = some (.int .i64 (nameAt h k).2)) := fun W hW k hk => by
        have := hcel3 W (grown_of_below hW) k hk
        rw [nmAt_names h _ k (by omega)] at this
        exact this
      clear hcel3 hN3 hb3 hes HOWN hbw2 hmap3
      go_wp2_with fail
      go_loopw [9, 35] (fun v9 v35 wr => ∃ k : Nat, k ≤ g.length ∧ v35 = .int .i64 k ∧ wr.ownsRow w3.heap.size 3 1 v9 k (((List.range k).map fun i => (spot h g i : Int)).map (Value.int .i64)) ∧ (∀ i, i < k → ∃ j, j < g.length ∧ nameAt g j = nameAt h i) ∧ Below w3.heap.size w3 wr) (fun _ v35 _ => g.length - (intOf v35).toNat)
      case atStart => exact ⟨0, Nat.zero_le _, rfl, World.ownsRow_nil _ _ _ _, fun i hi => absurd hi (by omega), Below.refl _ _⟩
      case round =>
        obtain ⟨k, hk, rfl, hown, hall, hbel⟩ := hrel
        have hsz := hbel.size
        have HALL : Hid (∀ i, i < k → ∃ j, j < g.length ∧ nameAt g j = nameAt h i) := hall
        have HOWN : Hid (wr.ownsRow w3.heap.size 3 1 u9 k (((List.range k).map fun i => (spot h g i : Int)).map (Value.int .i64))) := hown
        clear hall hown
        by_cases hlt : k < g.length
        · obtain ⟨rfl, c0, c1, c2, c3⟩ := HC3.out wr hbel k hlt
          have hsm := HSM.out.1 k (by omega)
          have HPK := HPL.out (nameAt h k) hsm
          have HMAPr : Hid (wr.ownsMap Tryd.prog 106 (plainElem (H := Unit) Tryd.prog 3) M g.length D) := HMAP3.out.kept (grown_of_below (row := none) hbel) (by simp)
          obtain ⟨⟨⟨t, a, x⟩, m⟩, hnm⟩ : ∃ n, nameAt h k = n := ⟨_, rfl⟩
          have HNM : Hid (nameAt h k = ((t, a, x), m)) := hnm
          rw [hnm] at c0 c1 c2 c3 HPK hsm
          have HK2 : Hid (keyOf Tryd.prog 106 (.agg #[.int .i64 t, .int .i64 a, .int .i64 x, .int .i64 m]) = some (nmL ((t, a, x), m))) := nm_key ((t, a, x), m) hsm
          obtain ⟨kl, hkl⟩ : ∃ kl, nmL ((t, a, x), m) = kl := ⟨_, rfl⟩
          rw [hkl] at HPK
          have HK3 : Hid (keyOf Tryd.prog 106 (.agg #[.int .i64 t, .int .i64 a, .int .i64 x, .int .i64 m]) = some kl) := by rw [← hkl]; exact HK2.out
          clear hnm HK2 hsm hkl
          simp only at c0 c1 c2 c3
          by_cases hex : ∃ j, j < g.length ∧ nameAt g j = ((t, a, x), m)
          · obtain ⟨j, hj, hjn⟩ := hex
            obtain ⟨hhas, hat⟩ := HPK.1 j hj hjn
            have HAT : Hid (D.atKey kl (.lit (.int .i64 0)) = .lit (.int .i64 (j : Int))) := hat
            have HSP : Hid (spot h g k = j) := spot_eq hj (hjn.trans HNM.out.symm)
            have HJN : Hid (nameAt g j = nameAt h k) := hjn.trans HNM.out.symm
            clear HPK hat hjn
            go_upto_region 13 with (fail)
            obtain ⟨W, hW⟩ : ∃ W, W = wr.alloc (.cells #[.int .i64 t, .int .i64 a, .int .i64 x, .int .i64 m] 106) := ⟨_, rfl⟩
            obtain ⟨P, hP⟩ : ∃ P, P = wr.heap.size := ⟨_, rfl⟩
            have p0 : W.cell? ⟨P, 0, none⟩ = some (.int .i64 t) := by rw [hW, hP]; simp
            have p1 : W.cell? ⟨P, 1, none⟩ = some (.int .i64 a) := by rw [hW, hP]; simp
            have p2 : W.cell? ⟨P, 2, none⟩ = some (.int .i64 x) := by rw [hW, hP]; simp
            have p3 : W.cell? ⟨P, 3, none⟩ = some (.int .i64 m) := by rw [hW, hP]; simp
            have HOW : Hid (W.ownsRow w3.heap.size 3 1 u9 k (((List.range k).map fun i => (spot h g i : Int)).map (Value.int .i64))) := by
              show W.ownsRow w3.heap.size 3 1 u9 k (((List.range k).map fun i => (spot h g i : Int)).map (Value.int .i64))
              rw [hW]; exact HOWN.out.alloc _
            have HMW : Hid (W.ownsMap Tryd.prog 106 (plainElem (H := Unit) Tryd.prog 3) M g.length D) := by
              show W.ownsMap Tryd.prog 106 (plainElem (H := Unit) Tryd.prog 3) M g.length D
              rw [hW]; exact HMAPr.out.alloc _
            have hbW : Below w3.heap.size w3 W := by rw [hW]; exact hbel.alloc hsz _
            have hsW := hbW.size
            rw [← hW, ← hP]
            clear hW hP HOWN HMAPr hbel hsz c0 c1 c2 c3
            go_wp2_with (first | (at_lookup; refine wpList_lookup_own_ok_int _ rfl (.tmp 40) (.tmp 41) 102 rfl 106 3 .i64 fLaw Tryd.underlying102 Tryd.underlying3 (fZero _) M g.length D rfl HMW.out (.agg #[.int .i64 t, .int .i64 a, .int .i64 x, .int .i64 m]) kl rfl HK3.out ?_; intro c hat hwc; have HCJ : Hid (c = (j : Int)) := by (rw [HAT.out] at hat; injection hat with h1; injection h1 with _ h2; exact h2.symm)) | (at_builtin; refine wpList_append_own _ rfl (.tmp 47) (.tmp 49) 30 rfl w3.heap.size 3 i0 (.int .i64 0) 1 8 Tryd.underlying30 HI.out.1 HI.out.2.1 HI.out.2.2.1 HI.out.2.2.2 rfl (by decide) u9 k (((List.range k).map fun i => (spot h g i : Int)).map (Value.int .i64)) rfl (HOW.out.alloc _) ⟨W.heap.size, 0, none⟩ 1 1 [.int .i64 c] rfl rfl (cell_one_new _ _ _) (by simp [Value.oneCell']) (by unfold maxLen; omega) (by omega) (by simp; omega) ?_; intro v1 w4 hown4 hgr4 hnil4))
            have hB4 := (hbW.alloc hsW _).grown hgr4 (by simp; omega) (fun q hq => (HOW.out.lt q hq).1)
            go_roundw
            case rel => exact ⟨k + 1, by omega, by go_num, by rw [List.range_succ, List.map_append, List.map_append]; simp only [List.map_cons, List.map_nil, HSP.out]; rw [← HCJ.out]; exact hown4, fun i hi => (by rcases Nat.lt_or_ge i k with h1 | h1; exact HALL.out i h1; exact ⟨j, hj, by rw [show i = k by omega]; exact HJN.out⟩), hB4⟩
            case measure => simp [intOf]; omega
          · have hhas : Maps.has D kl = false := HPK.2 fun i hi hin => hex ⟨i, hi, hin⟩
            have HNO : Hid (¬ Named h g) := fun hn => hex (by obtain ⟨j, hj, hjn⟩ := hn k (by omega); exact ⟨j, hj, hjn.trans HNM.out⟩)
            clear HPK hex
            go_upto_region 13 with (fail)
            obtain ⟨W, hW⟩ : ∃ W, W = wr.alloc (.cells #[.int .i64 t, .int .i64 a, .int .i64 x, .int .i64 m] 106) := ⟨_, rfl⟩
            obtain ⟨P, hP⟩ : ∃ P, P = wr.heap.size := ⟨_, rfl⟩
            have p0 : W.cell? ⟨P, 0, none⟩ = some (.int .i64 t) := by rw [hW, hP]; simp
            have p1 : W.cell? ⟨P, 1, none⟩ = some (.int .i64 a) := by rw [hW, hP]; simp
            have p2 : W.cell? ⟨P, 2, none⟩ = some (.int .i64 x) := by rw [hW, hP]; simp
            have p3 : W.cell? ⟨P, 3, none⟩ = some (.int .i64 m) := by rw [hW, hP]; simp
            have HOW : Hid (W.ownsRow w3.heap.size 3 1 u9 k (((List.range k).map fun i => (spot h g i : Int)).map (Value.int .i64))) := by
              show W.ownsRow w3.heap.size 3 1 u9 k (((List.range k).map fun i => (spot h g i : Int)).map (Value.int .i64))
              rw [hW]; exact HOWN.out.alloc _
            have HMW : Hid (W.ownsMap Tryd.prog 106 (plainElem (H := Unit) Tryd.prog 3) M g.length D) := by
              show W.ownsMap Tryd.prog 106 (plainElem (H := Unit) Tryd.prog 3) M g.length D
              rw [hW]; exact HMAPr.out.alloc _
            have hbW : Below w3.heap.size w3 W := by rw [hW]; exact hbel.alloc hsz _
            have hsW := hbW.size
            rw [← hW, ← hP]
            clear hW hP HOWN HMAPr hbel hsz c0 c1 c2 c3
            go_wp2_with (at_lookup; refine wpList_lookup_own_ok_int _ rfl (.tmp 40) (.tmp 41) 102 rfl 106 3 .i64 fLaw Tryd.underlying102 Tryd.underlying3 (fZero _) M g.length D rfl HMW.out (.agg #[.int .i64 t, .int .i64 a, .int .i64 x, .int .i64 m]) kl rfl HK3.out ?_; intro c hat hwc)
            go_ret2
            exact ⟨.inr ⟨HNO.out, rfl⟩, hbw3.trans (hbW.mono hbw3.size)⟩
        · obtain rfl : k = g.length := by omega
          go_wp2
          go_ret2
          refine ⟨.inl ⟨fun i hi => HALL.out i (by omega), _, rfl, ?_⟩, hbw3.trans (hbel.mono hbw3.size)⟩
          rw [heq]
          exact isInts_own HOWN.out (by simp)
end Go.Proofs.YtjaeaanpbdmfgaaDoor
