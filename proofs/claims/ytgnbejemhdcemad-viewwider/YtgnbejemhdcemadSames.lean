/-
  PROVED HERE: odds.find tells whether two right lists have the same names, and where each name of the one stands in the other. Old memory stays as it was.
  Conditions: none.
  PROVED HERE: slices.IndexFunc and slices.ContainsFunc at a list of edges with the closure of odds.Same. Old memory stays as it was.
  Conditions: what the closure answers is a premise.
  PROVED HERE: odds.Same tells of two right lists whether they have the same names, and no two that are at odds stand in another order; of any other the first one's error of Check. Old memory stays as it was.
  Conditions: none.
  PROVED HERE: lanesame.Ints says yes of two slices that hold the same list of numbers; nothing turns but the count of draws.
  Conditions: none.
-/
import Derived.Test.YtgnbejemhdcemadOddKey
import Derived.Deep.Cut
import Derived.Test.YtgnbejemhdcemadOddFunc
import Derived.Test.YtgnbejemhdcemadSamePlain
import Derived.Test.YtgnbejemhdcemadIntRow
import Derived.Deep.QuietTactic
import Derived.BigQuiet
import Derived.WalkSmall
namespace Go.Proofs.Ytgnbejemhdcemad
open Go.RowKit Go.Maps

theorem fZero (w : World) : (zeroValue 3).run Try.prog w = .ok (.int .i64 0) w := by kernel_rfl
/-- What the map holds when k names are in. -/
def Places (D : DataW Unit) (g : List Op3) (k : Nat) : Prop :=
  ∀ n : Nm, Small n → (∀ i, i < k → nameAt g i = n → Maps.has D (nmL n) = true ∧ D.atKey (nmL n) (.lit (.int .i64 0)) = .lit (.int .i64 (i : Int))) ∧ ((∀ i, i < k → nameAt g i ≠ n) → Maps.has D (nmL n) = false)
theorem places_start (g : List Op3) : Places (.map []) g 0 := fun n _ => ⟨fun i hi => absurd hi (by omega), fun _ => rfl⟩
theorem places_step {D : DataW Unit} {g : List Op3} {k : Nat} (hm : IsMap D) (hk : k < g.length) (hs : Small (nameAt g k)) (h : Places D g k) : Places (D.put (nmL (nameAt g k)) (.lit (.int .i64 (k : Int)))) g (k + 1) := by
  intro n hn
  by_cases he : nameAt g k = n
  · subst he
    refine ⟨fun i hi hin => ⟨has_put_same hm (fLaw.key (nm_key _ hn)) _, ?_⟩, fun hno => absurd rfl (hno k (by omega))⟩
    rw [atKey_put_same hm (fLaw.key (nm_key _ hn)), name_inj (by omega) hk hin]
  · have hne : nmL n ≠ nmL (nameAt g k) := fun hh => he (nm_inj hs hn hh.symm)
    rw [has_put_other hne, atKey_put_other hne]
    obtain ⟨h1, h2⟩ := h n hn
    refine ⟨fun i hi hin => h1 i ?_ hin, fun hno => h2 fun i hi => hno i (by omega)⟩
    rcases Nat.lt_or_ge i k with h3 | h3
    · exact h3
    · exact absurd (show nameAt g k = n by rw [show k = i by omega]; exact hin) he

theorem find_len (h g : List Op3) (v u : Value) (w : World) (hI : IsOps w v h) (hJ : IsOps w u g) (hne : h.length ≠ g.length) :
    Calls Try.prog 40 #[v, u] w fun e w' => e = .returned (.tuple #[.slice none 0 0, .bool false]) ∧ w' = w := by
  obtain ⟨ad, b, off, cap, rfl, _⟩ := hI
  obtain ⟨ad2, b2, off2, cap2, rfl, _⟩ := hJ
  have hb : (((h.length : Nat) : Int) != ((g.length : Nat) : Int)) = true := by simp; omega
  go_enter Try.func40, Try.ntmps40
  go_wp2
  all_goals first | (exfalso; omega) | skip
  go_ret2
  exact ⟨rfl, rfl⟩
set_option maxHeartbeats 8000000 in
set_option maxRecDepth 100000 in
theorem find_any (h g : List Op3) (v u : Value) (w : World) (hI : IsOps w v h) (hJ : IsOps w u g) (heq : h.length = g.length) (hc : (chk h).2 = 0) (hd : (chk g).2 = 0) :
    Calls Try.prog 40 #[v, u] w fun e w' => ((Named h g ∧ ∃ v', e = .returned (.tuple #[v', .bool true]) ∧ IsInts w' v' ((List.range h.length).map fun i => (spot h g i : Int))) ∨ (¬ Named h g ∧ e = .returned (.tuple #[.slice none 0 0, .bool false]))) ∧ Below w.heap.size w w' := by
  have hl := chk_len hc
  have HI0 : Hid (IsOps w v h) := hI
  have HJ0 : Hid (IsOps w u g) := hJ
  have HSM : Hid ((∀ i, i < h.length → Small (nameAt h i)) ∧ (∀ i, i < g.length → Small (nameAt g i))) := ⟨fun i hi => small_name hl (chk_ops hc) hi, fun i hi => small_name (chk_len hd) (chk_ops hd) hi⟩
  obtain ⟨ad, b, off, cap, rfl, _⟩ := hI
  obtain ⟨ad2, b2, off2, cap2, rfl, _⟩ := hJ
  have hmm := @run_makeMap Try.prog
  obtain ⟨i0, hi, hz0, hs0, hy0⟩ := info_parts infoInt
  have HI : Hid (Try.prog.info? 3 = some i0 ∧ i0.zero = some (.int .i64 0) ∧ i0.size = 1 ∧ i0.bytes = 8) := ⟨hi, hz0, hs0, hy0⟩
  clear hi hz0 hs0 hy0
  have HT : Hid ((∀ o ∈ h, 1 ≤ o.1 ∧ o.1 ≤ 6) ∧ (∀ o ∈ g, 1 ≤ o.1 ∧ o.1 ≤ 6)) := ⟨fun o ho => isOp_tx (chk_ops hc o ho), fun o ho => isOp_tx (chk_ops hd o ho)⟩
  have hl2 := chk_len hd
  obtain ⟨M, hM⟩ : ∃ M, M = w.heap.size := ⟨_, rfl⟩
  have HM : Hid (M = w.heap.size) := hM
  clear hc hd hM
  go_enter Try.func40, Try.ntmps40
  go_wp2_with fail
  rw [← HM.out]
  have hA : Below w.heap.size w (w.alloc (.map #[] 0)) := (Below.refl _ w).alloc (Nat.le_refl _) _
  refine (onames_any g _ _ (HJ0.out.below hA (Nat.le_refl _)) hl2 HT.out.2).mono ?_
  rintro e w1 ⟨v1, rfl, hN1, hb1⟩
  have hmap1 : w1.ownsMap Try.prog 59 (plainElem (H := Unit) Try.prog 3) M 0 (.map []) := by
    have h0 := World.ownsMap_made w Try.prog 59 (plainElem (H := Unit) Try.prog 3)
    rw [← HM.out] at h0
    exact h0.kept (grown_of_below (row := none) hb1) (by simp)
  have hbw1 : Below w.heap.size w w1 := hA.trans (hb1.mono (by simp))
  have hM1 : M < w1.heap.size := hmap1.lt
  have HMAP1 : Hid (w1.ownsMap Try.prog 59 (plainElem (H := Unit) Try.prog 3) M 0 (.map [])) := hmap1
  obtain ⟨es, clock, hes⟩ := map_block hmap1
  obtain ⟨ad3, b3, off3, cap3, rfl, hcel1⟩ := names_cells hN1 hes (namesTo_len g g.length)
  have HC1 : Hid (∀ W, w1.grownBy W (some M) → ∀ k, k < g.length → ad3 = some ⟨b3, off3, none⟩ ∧ W.cell? ⟨b3, off3 + k * 4, none⟩ = some (.int .i64 (nameAt g k).1.1) ∧ W.cell? ⟨b3, off3 + k * 4 + 1, none⟩ = some (.int .i64 (nameAt g k).1.2.1) ∧ W.cell? ⟨b3, off3 + k * 4 + 2, none⟩ = some (.int .i64 (nameAt g k).1.2.2) ∧ W.cell? ⟨b3, off3 + k * 4 + 3, none⟩ = some (.int .i64 (nameAt g k).2)) := fun W hW k hk => by
    have := hcel1 W hW k hk
    rw [nmAt_names g _ k hk] at this
    exact this
  clear hcel1 hN1 hb1 hA hes hmap1
  go_wp2_with fail
  go_loopw [23] (fun v23 wr => ∃ (k : Nat) (D : DataW Unit), k ≤ g.length ∧ v23 = .int .i64 k ∧ wr.ownsMap Try.prog 59 (plainElem (H := Unit) Try.prog 3) M k D ∧ Places D g k ∧ w1.grownBy wr (some M)) (fun v23 _ => g.length - (intOf v23).toNat)
  case atStart => exact ⟨0, _, Nat.zero_le _, rfl, HMAP1.out, places_start g, grown_of_below (Below.refl _ _)⟩
  case round =>
    obtain ⟨k, D, hk, rfl, hown, hpl, hgr⟩ := hrel
    have hgs := hgr.size
    by_cases hlt : k < g.length
    · obtain ⟨rfl, c0, c1, c2, c3⟩ := HC1.out wr hgr k hlt
      have HKEY : Hid (keyOf Try.prog 59 (nmV (nameAt g k)) = some (nmL (nameAt g k))) := nm_key _ (HSM.out.2 k hlt)
      have HPS : Hid (Places (D.put (nmL (nameAt g k)) (.lit (.int .i64 (k : Int)))) g (k + 1)) := places_step hown.isMap hlt (HSM.out.2 k hlt) hpl
      obtain ⟨⟨⟨t, a, x⟩, m⟩, hnm⟩ : ∃ n, nameAt g k = n := ⟨_, rfl⟩
      rw [hnm] at c0 c1 c2 c3
      have HK2 : Hid (keyOf Try.prog 59 (.agg #[.int .i64 t, .int .i64 a, .int .i64 x, .int .i64 m]) = some (nmL ((t, a, x), m))) := by
        have := HKEY.out
        rw [hnm] at this
        exact this
      have HPS2 : Hid (Places (D.put (nmL ((t, a, x), m)) (.lit (.int .i64 (k : Int)))) g (k + 1)) := by
        have := HPS.out
        rw [hnm] at this
        exact this
      have HOWN : Hid (wr.ownsMap Try.prog 59 (plainElem (H := Unit) Try.prog 3) M k D) := hown
      have hwf : (Lit.int .i64 (k : Int)).wf = true := wf_small (by omega) (by omega)
      have HWF : Hid ((Lit.int .i64 (k : Int)).wf = true) := hwf
      clear hnm HKEY HPS hown hpl hwf
      simp only at c0 c1 c2 c3
      go_wp2_with (at_mapUpdate; refine wpList_mapUpdate_own (H := Unit) _ rfl (.tmp 28) (.tmp 29) (.tmp 30) 110 rfl 59 3 fLaw Try.underlying110 (plainElem (H := Unit) Try.prog 3) M k D rfl (HOWN.out.alloc _) (by unfold maxLen; omega) (.agg #[.int .i64 t, .int .i64 a, .int .i64 x, .int .i64 m]) (.int .i64 k) (nmL ((t, a, x), m)) rfl rfl HK2.out (.lit (.int .i64 (k : Int))) [] (plainElem_int Try.underlying3 HWF.out) ?_; intro w2 hown2 hgr2)
      go_roundw
      case rel => exact ⟨k + 1, _, by omega, by go_num, hown2, HPS2.out, (hgr.trans (World.grownBy_alloc _ _ _)).trans hgr2⟩
      case measure => simp [intOf]; omega
    · obtain rfl : k = g.length := by omega
      have hbw2 : Below w.heap.size w wr := ⟨hgr.os.trans hbw1.os, hgr.tape.trans hbw1.tape, hgr.output.trans hbw1.output, Nat.le_trans hbw1.size hgr.size, fun j hj => (hgr.block j (Nat.lt_of_lt_of_le hj hbw1.size) (fun he => by have := Option.some.inj he; have := HM.out; omega)).trans (hbw1.block j hj)⟩
      have HOWN : Hid (wr.ownsMap Try.prog 59 (plainElem (H := Unit) Try.prog 3) M g.length D) := hown
      have HPL : Hid (Places D g g.length) := hpl
      clear hown hpl hgr HMAP1 HC1 hbw1 hgs
      go_wp2_with fail
      have HI1 : Hid (IsOps wr (.slice ad g.length cap) h) := by
        show IsOps wr (.slice ad g.length cap) h
        rw [← heq]
        exact HI0.out.below hbw2 (Nat.le_refl _)
      refine (onames_any h (.slice ad g.length cap) wr HI1.out hl HT.out.1).mono ?_
      rintro e w3 ⟨v3, rfl, hN3, hb3⟩
      have hmap3 : w3.ownsMap Try.prog 59 (plainElem (H := Unit) Try.prog 3) M g.length D := HOWN.out.kept (grown_of_below (row := none) hb3) (by simp)
      have HMAP3 : Hid (w3.ownsMap Try.prog 59 (plainElem (H := Unit) Try.prog 3) M g.length D) := hmap3
      have hbw3 : Below w.heap.size w w3 := hbw2.trans (hb3.mono hbw2.size)
      obtain ⟨es, clock, hes⟩ := map_block hmap3
      obtain ⟨ad4, b4, off4, cap4, rfl, hcel3⟩ := names_cells hN3 hes ((namesTo_len h h.length).trans heq)
      have HC3 : Hid (∀ W, Below w3.heap.size w3 W → ∀ k, k < g.length → ad4 = some ⟨b4, off4, none⟩ ∧ W.cell? ⟨b4, off4 + k * 4, none⟩ = some (.int .i64 (nameAt h k).1.1) ∧ W.cell? ⟨b4, off4 + k * 4 + 1, none⟩ = some (.int .i64 (nameAt h k).1.2.1) ∧ W.cell? ⟨b4, off4 + k * 4 + 2, none⟩ = some (.int .i64 (nameAt h k).1.2.2) ∧ W.cell? ⟨b4, off4 + k * 4 + 3, none⟩ = some (.int .i64 (nameAt h k).2)) := fun W hW k hk => by
        have := hcel3 W (grown_of_below hW) k hk
        rw [nmAt_names h _ k (by omega)] at this
        exact this
      clear hcel3 hN3 hb3 hes HOWN hbw2 hmap3
      go_wp2_with fail
      go_loopw [9, 35] (fun v9 v35 wr => ∃ k : Nat, k ≤ g.length ∧ v35 = .int .i64 k ∧ wr.ownsRow w3.heap.size 3 1 v9 k (((List.range k).map fun i => (spot h g i : Int)).map (Value.int .i64)) ∧ (∀ i, i < k → ∃ j, j < g.length ∧ nameAt g j = nameAt h i) ∧ Below w3.heap.size w3 wr) (fun _ v35 _ => g.length - (intOf v35).toNat)
      case atStart => exact ⟨0, Nat.zero_le _, rfl, World.ownsRow_nil _ _ _ _, fun i hi => absurd hi (by omega), Below.refl _ _⟩
      case round =>
        obtain ⟨k, hk, rfl, hown, hall, hbel⟩ := hrel
        have hsz := hbel.size
        have HALL : Hid (∀ i, i < k → ∃ j, j < g.length ∧ nameAt g j = nameAt h i) := hall
        have HOWN : Hid (wr.ownsRow w3.heap.size 3 1 u9 k (((List.range k).map fun i => (spot h g i : Int)).map (Value.int .i64))) := hown
        clear hall hown
        by_cases hlt : k < g.length
        · obtain ⟨rfl, c0, c1, c2, c3⟩ := HC3.out wr hbel k hlt
          have hsm := HSM.out.1 k (by omega)
          have HPK := HPL.out (nameAt h k) hsm
          have HMAPr : Hid (wr.ownsMap Try.prog 59 (plainElem (H := Unit) Try.prog 3) M g.length D) := HMAP3.out.kept (grown_of_below (row := none) hbel) (by simp)
          obtain ⟨⟨⟨t, a, x⟩, m⟩, hnm⟩ : ∃ n, nameAt h k = n := ⟨_, rfl⟩
          have HNM : Hid (nameAt h k = ((t, a, x), m)) := hnm
          rw [hnm] at c0 c1 c2 c3 HPK hsm
          have HK2 : Hid (keyOf Try.prog 59 (.agg #[.int .i64 t, .int .i64 a, .int .i64 x, .int .i64 m]) = some (nmL ((t, a, x), m))) := nm_key ((t, a, x), m) hsm
          obtain ⟨kl, hkl⟩ : ∃ kl, nmL ((t, a, x), m) = kl := ⟨_, rfl⟩
          rw [hkl] at HPK
          have HK3 : Hid (keyOf Try.prog 59 (.agg #[.int .i64 t, .int .i64 a, .int .i64 x, .int .i64 m]) = some kl) := by rw [← hkl]; exact HK2.out
          clear hnm HK2 hsm hkl
          simp only at c0 c1 c2 c3
          by_cases hex : ∃ j, j < g.length ∧ nameAt g j = ((t, a, x), m)
          · obtain ⟨j, hj, hjn⟩ := hex
            obtain ⟨hhas, hat⟩ := HPK.1 j hj hjn
            have HAT : Hid (D.atKey kl (.lit (.int .i64 0)) = .lit (.int .i64 (j : Int))) := hat
            have HSP : Hid (spot h g k = j) := spot_eq hj (hjn.trans HNM.out.symm)
            have HJN : Hid (nameAt g j = nameAt h k) := hjn.trans HNM.out.symm
            clear HPK hat hjn
            go_upto_region 13 with (fail)
            obtain ⟨W, hW⟩ : ∃ W, W = wr.alloc (.cells #[.int .i64 t, .int .i64 a, .int .i64 x, .int .i64 m] 59) := ⟨_, rfl⟩
            obtain ⟨P, hP⟩ : ∃ P, P = wr.heap.size := ⟨_, rfl⟩
            have p0 : W.cell? ⟨P, 0, none⟩ = some (.int .i64 t) := by rw [hW, hP]; simp
            have p1 : W.cell? ⟨P, 1, none⟩ = some (.int .i64 a) := by rw [hW, hP]; simp
            have p2 : W.cell? ⟨P, 2, none⟩ = some (.int .i64 x) := by rw [hW, hP]; simp
            have p3 : W.cell? ⟨P, 3, none⟩ = some (.int .i64 m) := by rw [hW, hP]; simp
            have HOW : Hid (W.ownsRow w3.heap.size 3 1 u9 k (((List.range k).map fun i => (spot h g i : Int)).map (Value.int .i64))) := by
              show W.ownsRow w3.heap.size 3 1 u9 k (((List.range k).map fun i => (spot h g i : Int)).map (Value.int .i64))
              rw [hW]; exact HOWN.out.alloc _
            have HMW : Hid (W.ownsMap Try.prog 59 (plainElem (H := Unit) Try.prog 3) M g.length D) := by
              show W.ownsMap Try.prog 59 (plainElem (H := Unit) Try.prog 3) M g.length D
              rw [hW]; exact HMAPr.out.alloc _
            have hbW : Below w3.heap.size w3 W := by rw [hW]; exact hbel.alloc hsz _
            have hsW := hbW.size
            rw [← hW, ← hP]
            clear hW hP HOWN HMAPr hbel hsz c0 c1 c2 c3
            go_wp2_with (first | (at_lookup; refine wpList_lookup_own_ok_int _ rfl (.tmp 40) (.tmp 41) 110 rfl 59 3 .i64 fLaw Try.underlying110 Try.underlying3 (fZero _) M g.length D rfl HMW.out (.agg #[.int .i64 t, .int .i64 a, .int .i64 x, .int .i64 m]) kl rfl HK3.out ?_; intro c hat hwc; have HCJ : Hid (c = (j : Int)) := by (rw [HAT.out] at hat; injection hat with h1; injection h1 with _ h2; exact h2.symm)) | (at_builtin; refine wpList_append_own _ rfl (.tmp 47) (.tmp 49) 32 rfl w3.heap.size 3 i0 (.int .i64 0) 1 8 Try.underlying32 HI.out.1 HI.out.2.1 HI.out.2.2.1 HI.out.2.2.2 rfl (by decide) u9 k (((List.range k).map fun i => (spot h g i : Int)).map (Value.int .i64)) rfl (HOW.out.alloc _) ⟨W.heap.size, 0, none⟩ 1 1 [.int .i64 c] rfl rfl (cell_one_new _ _ _) (by simp [Value.oneCell']) (by unfold maxLen; omega) (by omega) (by simp; omega) ?_; intro v1 w4 hown4 hgr4 hnil4))
            have hB4 := (hbW.alloc hsW _).grown hgr4 (by simp; omega) (fun q hq => (HOW.out.lt q hq).1)
            go_roundw
            case rel => exact ⟨k + 1, by omega, by go_num, by rw [List.range_succ, List.map_append, List.map_append]; simp only [List.map_cons, List.map_nil, HSP.out]; rw [← HCJ.out]; exact hown4, fun i hi => (by rcases Nat.lt_or_ge i k with h1 | h1; exact HALL.out i h1; exact ⟨j, hj, by rw [show i = k by omega]; exact HJN.out⟩), hB4⟩
            case measure => simp [intOf]; omega
          · have hhas : Maps.has D kl = false := HPK.2 fun i hi hin => hex ⟨i, hi, hin⟩
            have HNO : Hid (¬ Named h g) := fun hn => hex (by obtain ⟨j, hj, hjn⟩ := hn k (by omega); exact ⟨j, hj, hjn.trans HNM.out⟩)
            clear HPK hex
            go_upto_region 13 with (fail)
            obtain ⟨W, hW⟩ : ∃ W, W = wr.alloc (.cells #[.int .i64 t, .int .i64 a, .int .i64 x, .int .i64 m] 59) := ⟨_, rfl⟩
            obtain ⟨P, hP⟩ : ∃ P, P = wr.heap.size := ⟨_, rfl⟩
            have p0 : W.cell? ⟨P, 0, none⟩ = some (.int .i64 t) := by rw [hW, hP]; simp
            have p1 : W.cell? ⟨P, 1, none⟩ = some (.int .i64 a) := by rw [hW, hP]; simp
            have p2 : W.cell? ⟨P, 2, none⟩ = some (.int .i64 x) := by rw [hW, hP]; simp
            have p3 : W.cell? ⟨P, 3, none⟩ = some (.int .i64 m) := by rw [hW, hP]; simp
            have HOW : Hid (W.ownsRow w3.heap.size 3 1 u9 k (((List.range k).map fun i => (spot h g i : Int)).map (Value.int .i64))) := by
              show W.ownsRow w3.heap.size 3 1 u9 k (((List.range k).map fun i => (spot h g i : Int)).map (Value.int .i64))
              rw [hW]; exact HOWN.out.alloc _
            have HMW : Hid (W.ownsMap Try.prog 59 (plainElem (H := Unit) Try.prog 3) M g.length D) := by
              show W.ownsMap Try.prog 59 (plainElem (H := Unit) Try.prog 3) M g.length D
              rw [hW]; exact HMAPr.out.alloc _
            have hbW : Below w3.heap.size w3 W := by rw [hW]; exact hbel.alloc hsz _
            have hsW := hbW.size
            rw [← hW, ← hP]
            clear hW hP HOWN HMAPr hbel hsz c0 c1 c2 c3
            go_wp2_with (at_lookup; refine wpList_lookup_own_ok_int _ rfl (.tmp 40) (.tmp 41) 110 rfl 59 3 .i64 fLaw Try.underlying110 Try.underlying3 (fZero _) M g.length D rfl HMW.out (.agg #[.int .i64 t, .int .i64 a, .int .i64 x, .int .i64 m]) kl rfl HK3.out ?_; intro c hat hwc)
            go_ret2
            exact ⟨.inr ⟨HNO.out, rfl⟩, hbw3.trans (hbW.mono hbw3.size)⟩
        · obtain rfl : k = g.length := by omega
          go_wp2
          go_ret2
          refine ⟨.inl ⟨fun i hi => HALL.out i (by omega), _, rfl, ?_⟩, hbw3.trans (hbel.mono hbw3.size)⟩
          rw [heq]
          exact isInts_own HOWN.out (by simp)
end Go.Proofs.Ytgnbejemhdcemad

namespace Go.Proofs.Ytgnbejemhdcemad
open Go.RowKit

set_option maxHeartbeats 4000000 in
theorem index_same (l : List Edge2) (v : Value) (q : Edge2 → Bool) (p1 : Value) (w : World) (hI : IsEdges w v l) (hlen : l.length ≤ 140737488351)
    (hp : ∀ W : World, Below w.heap.size w W → ∀ e ∈ l, Calls Try.prog 41 #[.agg #[.int .i64 e.1, .int .i64 e.2], p1] W fun r w' => r = .returned (.bool (q e)) ∧ Below W.heap.size W w') :
    Calls Try.prog 67 #[v, .func (.func 41) #[] #[p1]] w fun r w' => ∃ n : Int, r = .returned (.int .i64 n) ∧ (decide (0 ≤ n) = l.any q) ∧ Below w.heap.size w w' := by
  obtain ⟨ad, b, off, cap, rfl, ha, _, hbB, hops⟩ := hI
  have HO : Hid (∀ W, Below w.heap.size w W → ∀ k, k < l.length → ad = some ⟨b, off, none⟩ ∧ W.cell? ⟨b, off + k * 2, none⟩ = some (.int .i64 (l.getD k (0, 0)).1) ∧ W.cell? ⟨b, off + k * 2 + 1, none⟩ = some (.int .i64 (l.getD k (0, 0)).2)) := fun W hW k hk => ⟨ha (by omega), (hops.below hW hbB) k hk⟩
  have HP : Hid (∀ W : World, Below w.heap.size w W → ∀ e ∈ l, Calls Try.prog 41 #[.agg #[.int .i64 e.1, .int .i64 e.2], p1] W fun r w' => r = .returned (.bool (q e)) ∧ Below W.heap.size W w') := hp
  clear ha hbB hops hp
  go_enter Try.func67, Try.ntmps67
  go_wp2
  go_loopw [8] (fun v8 wr => ∃ k : Nat, k ≤ l.length ∧ v8 = .int .i64 k ∧ (l.take k).any q = false ∧ Below w.heap.size w wr) (fun v8 _ => l.length - (intOf v8).toNat)
  case atStart => exact ⟨0, Nat.zero_le _, rfl, by simp, Below.refl _ _⟩
  case round =>
    obtain ⟨k, hk, rfl, hno, hbel⟩ := hrel
    have HNO : Hid ((l.take k).any q = false) := hno
    clear hno
    have hsz := hbel.size
    by_cases hlt : k < l.length
    · obtain ⟨rfl, c0, c1⟩ := HO.out wr hbel k hlt
      obtain ⟨⟨t, a⟩, ho⟩ : ∃ o : Edge2, l.getD k (0, 0) = o := ⟨_, rfl⟩
      rw [ho] at c0 c1
      have hmem : (t, a) ∈ l := by rw [← ho]; simp [List.getD, List.getElem?_eq_getElem hlt]
      have HT : Hid (l.take (k + 1) = l.take k ++ [(t, a)]) := by
        show l.take (k + 1) = l.take k ++ [(t, a)]
        rw [List.take_succ_eq_append_getElem hlt, ← ho]; simp [List.getD, List.getElem?_eq_getElem hlt]
      have HM : Hid ((t, a) ∈ l) := hmem
      clear ho HO hmem
      simp only at c0 c1
      cases hq : q (t, a) with
      | false =>
        have HQ : Hid (q (t, a) = false) := hq
        have HC : Hid (Calls Try.prog 41 #[.agg #[.int .i64 t, .int .i64 a], p1] wr fun r w' => r = .returned (.bool false) ∧ Below wr.heap.size wr w') := hq ▸ HP.out wr hbel _ HM.out
        clear hq
        go_wp2_with (go_at_call 41; refine HC.out.mono ?_; rintro e w1 ⟨rfl, hb1⟩)
        go_roundw
        case rel => exact ⟨k + 1, by omega, by go_num, any_snoc HT.out HNO.out HQ.out, hbel.trans (hb1.mono hsz)⟩
        case measure => simp [intOf]; omega
      | true =>
        have HQ : Hid (q (t, a) = true) := hq
        have HC : Hid (Calls Try.prog 41 #[.agg #[.int .i64 t, .int .i64 a], p1] wr fun r w' => r = .returned (.bool true) ∧ Below wr.heap.size wr w') := hq ▸ HP.out wr hbel _ HM.out
        clear hq
        go_wp2_with (go_at_call 41; refine HC.out.mono ?_; rintro e w1 ⟨rfl, hb1⟩)
        go_ret
        exact ⟨_, rfl, by rw [any_hit HM.out HQ.out]; simp, hbel.trans (hb1.mono hsz)⟩
    · go_wp2
      go_ret
      refine ⟨_, rfl, ?_, hbel⟩
      have h0 := HNO.out
      rw [List.take_of_length_le (by omega)] at h0
      rw [h0]; simp
theorem contains_same (l : List Edge2) (v : Value) (q : Edge2 → Bool) (p1 : Value) (w : World) (hI : IsEdges w v l) (hlen : l.length ≤ 140737488351)
    (hp : ∀ W : World, Below w.heap.size w W → ∀ e ∈ l, Calls Try.prog 41 #[.agg #[.int .i64 e.1, .int .i64 e.2], p1] W fun r w' => r = .returned (.bool (q e)) ∧ Below W.heap.size W w') :
    Calls Try.prog 42 #[v, .func (.func 41) #[] #[p1]] w fun r w' => r = .returned (.bool (l.any q)) ∧ Below w.heap.size w w' := by
  have HC : Hid (Calls Try.prog 67 #[v, .func (.func 41) #[] #[p1]] w fun r w' => ∃ n : Int, r = .returned (.int .i64 n) ∧ (decide (0 ≤ n) = l.any q) ∧ Below w.heap.size w w') := index_same l v q p1 w hI hlen hp
  clear hp hI
  go_enter Try.func42, Try.ntmps42
  go_wp2_with (go_at_call 67; refine HC.out.mono ?_; rintro e w1 ⟨n, rfl, hn, hb1⟩)
  all_goals go_ret
  all_goals exact ⟨ret_bool (by simp_all), hb1⟩
end Go.Proofs.Ytgnbejemhdcemad

namespace Go.Proofs.Ytgnbejemhdcemad
open Go.RowKit

set_option maxHeartbeats 2000000 in
theorem same1_any (ts : List Int) (tv : Value) (c i j : Nat) (w : World) (hI : IsInts w tv ts) (hl : ts.length ≤ 40) (h1 : w.cell? ⟨c, 0, none⟩ = some tv) (hi : i < ts.length) (hj : j < ts.length) :
    Calls Try.prog 41 #[.agg #[.int .i64 i, .int .i64 j], .pointer (some ⟨c, 0, none⟩)] w fun e w' => e = .returned (.bool (decide (ts.getD j 0 < ts.getD i 0))) ∧ Below w.heap.size w w' := by
  have b1 := World.block_lt_of_cell? w _ h1
  simp only at b1
  obtain ⟨ad, b, off, cap, rfl, ha, _, hbB, hops⟩ := hI
  obtain rfl := ha (by omega)
  have c0 := hops i hi
  have d0 := hops j hj
  have bb := World.block_lt_of_cell? w _ c0
  simp only at bb
  obtain ⟨x, hx⟩ : ∃ x, ts.getD i 0 = x := ⟨_, rfl⟩
  obtain ⟨y, hy⟩ : ∃ y, ts.getD j 0 = y := ⟨_, rfl⟩
  rw [hx] at c0
  rw [hy] at d0
  rw [hx, hy]
  clear ha hbB hops hx hy
  go_enter Try.func41, Try.ntmps41
  go_wp2_with fail
  go_quiet (fail)
  go_wp2
  go_ret
  exact ⟨rfl, below_drewN ((Below.refl _ w).alloc (Nat.le_refl _) _) _⟩

theorem same_bad (h : List Op3) (v u : Value) (w : World) (hI : IsOps w v h) (hc : (chk h).2 ≠ 0) :
    Calls Try.prog 14 #[v, u] w fun e w' => e = .returned (.tuple #[.bool false, .iface 75 (.int .i64 (chk h).2)]) ∧ Below w.heap.size w w' := by
  go_enter Try.func14, Try.ntmps14
  go_wp2_with (go_at_call 19; refine (check_bad h _ _ hI hc).mono ?_; rintro e w1 ⟨rfl, hb1⟩)
  go_ret2
  exact ⟨rfl, hb1⟩
theorem same_bad2 (h g : List Op3) (v u : Value) (w : World) (hI : IsOps w v h) (hJ : IsOps w u g) (hc : (chk h).2 = 0) (hd : (chk g).2 ≠ 0) :
    Calls Try.prog 14 #[v, u] w fun e w' => e = .returned (.tuple #[.bool false, .iface 75 (.int .i64 (chk g).2)]) ∧ Below w.heap.size w w' := by
  go_enter Try.func14, Try.ntmps14
  go_wp2_with fail
  refine (check_ok h _ _ hI hc).mono ?_
  rintro e w1 ⟨rfl, hb1⟩
  go_wp2_with fail
  refine (check_bad g _ _ (hJ.below hb1 (Nat.le_refl _)) hd).mono ?_
  rintro e w2 ⟨rfl, hb2⟩
  go_wp2
  go_ret2
  exact ⟨rfl, hb1.trans (hb2.mono hb1.size)⟩
set_option maxHeartbeats 4000000 in
theorem same_ok (h g : List Op3) (v u : Value) (w : World) (hI : IsOps w v h) (hJ : IsOps w u g) (hc : (chk h).2 = 0) (hd : (chk g).2 = 0) :
    Calls Try.prog 14 #[v, u] w fun e w' => e = .returned (.tuple #[.bool (sameB h g), .nilIface]) ∧ Below w.heap.size w w' := by
  have HC : Hid ((chk h).2 = 0 ∧ (chk g).2 = 0) := ⟨hc, hd⟩
  go_enter Try.func14, Try.ntmps14
  go_wp2_with fail
  refine (check_ok h _ _ hI hc).mono ?_
  rintro e w1 ⟨rfl, hb1⟩
  go_wp2_with fail
  refine (check_ok g _ _ (hJ.below hb1 (Nat.le_refl _)) hd).mono ?_
  rintro e w2 ⟨rfl, hb2⟩
  have hb02 := hb1.trans (hb2.mono hb1.size)
  have hI2 := hI.below hb02 (Nat.le_refl _)
  have hJ2 := hJ.below hb02 (Nat.le_refl _)
  clear hb1 hb2
  go_wp2_with fail
  by_cases heq : h.length = g.length
  · refine (find_any h g _ _ _ hI2 hJ2 heq hc hd).mono ?_
    rintro e w3 ⟨⟨hnm, v3, rfl, hT3⟩ | ⟨hno, rfl⟩, hb3⟩
    · have HY : Hid (sameB h g = !(pairsL h).any (turnedB h g)) := sameB_yes ⟨heq, hnm⟩
      have hb03 := hb02.trans (hb3.mono hb02.size)
      have hI3 := hI2.below hb3 (Nat.le_refl _)
      have hl := chk_len hc
      have HV : Hid (∃ ad n c, v3 = .slice ad n c) := by obtain ⟨ad, b, off, cap, rfl, _⟩ := hT3; exact ⟨_, _, _, rfl⟩
      obtain ⟨ad3, n3, cap3, rfl⟩ := HV.out
      clear HV heq hnm hb3 hI2 hJ2 hI hJ hc hd
      go_wp2_with fail
      have hA : Below w3.heap.size w3 (w3.alloc (.cells #[.slice ad3 n3 cap3] 32)) := (Below.refl _ w3).alloc (Nat.le_refl _) _
      refine (pairs_any h _ _ (hI3.below hA (Nat.le_refl _)) hl).mono ?_
      rintro e w4 ⟨v4, rfl, hE4, hb4⟩
      have hT4 := (hT3.below hA (Nat.le_refl _)).below hb4 (Nat.le_refl _)
      have hc4 : w4.cell? ⟨w3.heap.size, 0, none⟩ = some (.slice ad3 n3 cap3) := by rw [hb4.cell (p := ⟨w3.heap.size, 0, none⟩) (by simp)]; simp
      have hb04 := (hb03.alloc hb03.size (.cells #[.slice ad3 n3 cap3] 32)).trans (hb4.mono (by have := hb03.size; simp; omega))
      have hlt4 : w3.heap.size < w4.heap.size := World.block_lt_of_cell? w4 _ hc4
      have HP : Hid (Calls Try.prog 42 #[v4, .func (.func 41) #[] #[.pointer (some ⟨w3.heap.size, 0, none⟩)]] w4 fun r w' => r = .returned (.bool ((pairsL h).any (turnedB h g))) ∧ Below w4.heap.size w4 w') := by
        refine contains_same (pairsL h) v4 (turnedB h g) _ w4 hE4 (by have := pairsL_len h hl; omega) ?_
        intro W hW e he
        obtain ⟨i, j, hij, hj, _, rfl⟩ := mem_pairs.1 he
        have hs := same1_any ((List.range h.length).map fun i => (spot h g i : Int)) (.slice ad3 n3 cap3) w3.heap.size i j W (hT4.below hW (Nat.le_refl _)) (by simpa using hl) ((hW.cell (p := ⟨w3.heap.size, 0, none⟩) hlt4).trans hc4) (by simp; omega) (by simpa using hj)
        have e1 : ((List.range h.length).map fun i => (spot h g i : Int)).getD i 0 = spot h g i := by simp [List.getD, show i < h.length by omega]
        have e2 : ((List.range h.length).map fun i => (spot h g i : Int)).getD j 0 = spot h g j := by simp [List.getD, hj]
        rw [e1, e2] at hs
        have e3 : turnedB h g ((i : Int), (j : Int)) = decide ((spot h g j : Int) < (spot h g i : Int)) := by simp [turnedB]
        rw [e3]
        exact hs
      clear hE4 hT4 hc4 hI3 hT3 hA hb4
      go_wp2_with fail
      refine HP.out.mono ?_
      rintro e w5 ⟨rfl, hb5⟩
      go_wp2
      all_goals go_ret2
      all_goals exact ⟨by rw [HY.out]; rfl, hb04.trans (hb5.mono hb04.size)⟩
    · have HN : Hid (sameB h g = false) := sameB_no fun hh => hno hh.2
      go_wp2
      go_ret2
      exact ⟨by rw [HN.out]; rfl, (hb02.trans (hb3.mono hb02.size)).alloc (by have := hb3.size; have := hb02.size; omega) _⟩
  · refine (find_len h g _ _ _ hI2 hJ2 heq).mono ?_
    rintro e w3 ⟨rfl, hw3⟩
    rw [hw3]; clear hw3
    have HN : Hid (sameB h g = false) := sameB_no fun hh => heq hh.1
    go_wp2
    go_ret2
    exact ⟨by rw [HN.out]; rfl, hb02.alloc hb02.size _⟩
end Go.Proofs.Ytgnbejemhdcemad

namespace Go.Proofs.Ytgnbejemhdcemad
open Go.RowKit

set_option maxHeartbeats 4000000 in
theorem same_ints (l : List Int) (v u : Value) (w : World) (hv : IsInts w v l) (hu : IsInts w u l) (hlen : l.length ≤ 140737488351) :
    Calls Try.prog 13 #[v, u] w fun e w' => e = .returned (.bool true) ∧ Below w.heap.size w w' := by
  have hv' := hv
  have hu' := hu
  obtain ⟨ad, b, off, cap, rfl, ha, _, hbB, hc⟩ := hv
  obtain ⟨ad2, b2, off2, cap2, rfl, ha2, _, hbB2, hc2⟩ := hu
  have H : Hid (∀ k, k < l.length → ad = some ⟨b, off, none⟩ ∧ ad2 = some ⟨b2, off2, none⟩ ∧ b < w.heap.size ∧ b2 < w.heap.size ∧ w.cell? ⟨b, off + k, none⟩ = some (.int .i64 (l.getD k 0)) ∧ w.cell? ⟨b2, off2 + k, none⟩ = some (.int .i64 (l.getD k 0))) := fun k hk => by
    refine ⟨ha (by omega), ha2 (by omega), ?_, ?_, hc k hk, hc2 k hk⟩
    · rcases hbB with h | h
      · exact h
      · subst h; simp at hk
    · rcases hbB2 with h | h
      · exact h
      · subst h; simp at hk
  clear hv' hu' ha ha2 hbB hbB2 hc hc2
  go_enter Try.func13, Try.ntmps13
  go_wp2
  go_loopw [5] (fun v5 wr => ∃ k : Nat, k ≤ l.length ∧ v5 = .int .i64 k ∧ Below w.heap.size w wr) (fun v5 _ => l.length - (intOf v5).toNat)
  case atStart => exact ⟨0, Nat.zero_le _, rfl, Below.refl _ _⟩
  case round =>
    obtain ⟨k, hk, rfl, hbel⟩ := hrel
    by_cases hlt : k < l.length
    · obtain ⟨e1, e2, h1, h2, c1, c2⟩ := H.out k hlt
      subst e1 e2
      rw [← hbel.cell (p := ⟨b, off + k, none⟩) h1] at c1
      rw [← hbel.cell (p := ⟨b2, off2 + k, none⟩) h2] at c2
      obtain ⟨x, hx⟩ : ∃ x, l.getD k 0 = x := ⟨_, rfl⟩
      rw [hx] at c1 c2
      clear hx H
      go_wp2
      go_quiet (fail)
      go_wp2
      go_roundw
      case rel => exact ⟨k + 1, by omega, by go_num, below_drewN hbel _⟩
      case measure => simp [intOf]; omega
    · go_wp2
      go_ret
      exact ⟨rfl, hbel⟩
end Go.Proofs.Ytgnbejemhdcemad
