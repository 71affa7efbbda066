/-
  PROVED HERE: lanelaw1.SerialJust returns true, whatever the list of ops and the order; old memory stays as it was.
  Conditions: play.Values' contract (ValuesOk), which the text that speaks of package play proves.
-/
import Derived.Test.YtgnbejemhdcemacJustPlain
import Derived.Test.YtgnbejemhdcemacWiderPlain
import Derived.Test.YtgnbejemhdcemacPlayAsk
import Derived.Test.YtgnbejemhdcemacSerOrder
import Derived.Test.YtgnbejemhdcemacSerNs
import Derived.Test.YtgnbejemhdcemacRings
import Derived.Test.YtgnbejemhdcemacOddSameWalk
import Derived.Test.YtgnbejemhdcemacSameInts
import Derived.BigQuiet
namespace Go.Proofs.Ytgnbejemhdcemac
open Go.RowKit

theorem just_noring {d : List Op3} {o : List Int} (h : serOrd d = some o) : ringL (edgesTo d 36) = none := by
  rcases graph_either (edges_right d 36) with ⟨_, _, _, h1⟩ | ⟨h1, _⟩
  · exact h1
  · rw [serOrd_none.2 h1] at h; cases h
theorem just_ring {d : List Op3} (h : serOrd d = none) : ∃ r, ringL (edgesTo d 36) = some r ∧ 2 ≤ r.length := by
  rcases graph_either (edges_right d 36) with ⟨o, h1, _, _⟩ | ⟨_, r, h1, h2, h3, _⟩
  · rw [serOrd_none.1 h] at h1; cases h1
  · refine ⟨r, h1, ?_⟩
    rcases Nat.lt_or_ge r.length 2 with hl | hl
    · obtain ⟨k, rfl⟩ := List.length_eq_one_iff.1 (show r.length = 1 by omega)
      have h5 : stepsS (edgesTo d 36) k k = true := by simpa [last_at, head_at] using h2.shut
      obtain ⟨⟨x, y⟩, he, h6⟩ := List.any_eq_true.1 h5
      simp only [Bool.and_eq_true, beq_iff_eq] at h6
      obtain ⟨rfl, rfl⟩ := h6
      exact absurd he edge_two
    · exact hl

theorem just_four_at (w : World) : OpsAt (w.alloc (.cells #[.int .i64 2, .int .i64 2, .int .i64 1, .int .i64 1, .int .i64 1, .int .i64 1, .int .i64 1, .int .i64 3, .int .i64 0, .int .i64 2, .int .i64 3, .int .i64 0] 24)) w.heap.size 0 [(2, 2, 1), (1, 1, 1), (1, 3, 0), (2, 3, 0)] := by
  intro i hi
  match i, hi with
  | 0, _ => simp
  | 1, _ => simp
  | 2, _ => simp
  | 3, _ => simp
theorem just_fact (w : World) (b : Nat) (hb : b = w.heap.size) :
    Calls Try.prog 17 #[.slice (some ⟨b, 0, none⟩) 4 4] (w.alloc (.cells #[.int .i64 2, .int .i64 2, .int .i64 1, .int .i64 1, .int .i64 1, .int .i64 1, .int .i64 1, .int .i64 3, .int .i64 0, .int .i64 2, .int .i64 3, .int .i64 0] 24)) fun e w' => ∃ b1 o1 c1, e = .returned (.tuple #[.slice (some ⟨b1, o1, none⟩) 2 c1, .nilIface]) ∧ w'.cell? ⟨b1, o1, none⟩ = some (.int .i64 2) ∧ Below w.heap.size w w' := by
  subst hb
  have hs : serOrd (doneL [(2, 2, 1), (1, 1, 1), (1, 3, 0), (2, 3, 0)]) = some [2, 1] := by decide +kernel
  refine (ord_any [(2, 2, 1), (1, 1, 1), (1, 3, 0), (2, 3, 0)] (.slice (some ⟨w.heap.size, 0, none⟩) 4 4) _ ⟨some ⟨w.heap.size, 0, none⟩, w.heap.size, 0, 4, rfl, fun _ => rfl, fun h => (by cases h), .inl (by simp), just_four_at w⟩ (by decide +kernel)).mono ?_
  rintro e w' ⟨⟨o, v', ho, rfl, hI⟩ | ⟨hn, -⟩, hb'⟩
  · rw [hs] at ho
    obtain rfl := Option.some.inj ho
    obtain ⟨ad, b, off, cap, rfl, ha, _, _, hops⟩ := hI
    obtain rfl := ha (by simp)
    exact ⟨b, off, cap, rfl, by simpa using hops 0 (by simp), ((Below.refl _ w).alloc (Nat.le_refl _) _).trans (hb'.mono (by simp))⟩
  · rw [hs] at hn; cases hn

set_option maxHeartbeats 8000000 in
set_option maxRecDepth 100000 in
theorem sjust_bad (l : List Op3) (v u : Value) (w : World) (hI : IsOps w v l) (hc : (chk l).2 ≠ 0) :
    Calls Try.prog 6 #[v, u] w fun e w' => e = .returned (.bool true) ∧ Below w.heap.size w w' := by
  have HI : Hid (∀ W, Below w.heap.size w W → IsOps W v l) := fun W hW => hI.below hW (Nat.le_refl _)
  have HC : Hid ((chk l).2 ≠ 0) := hc
  clear hI hc
  go_enter Try.func6, Try.ntmps6
  go_wp2_with fail
  refine (just_fact _ _ (by simp)).mono ?_
  rintro e w1 ⟨b1, o1, c1, rfl, hc1, hb1⟩
  go_wp2_with fail
  refine (edges_bad l _ _ (HI.out _ hb1) HC.out).mono ?_
  rintro e w2 ⟨rfl, hb2⟩
  have hb02 := hb1.trans (hb2.mono hb1.size)
  clear hc1 hb1 hb2
  go_wp2_with fail
  refine (ord_bad l _ _ (HI.out _ hb02) HC.out).mono ?_
  rintro e w3 ⟨rfl, hb3⟩
  have hb03 := hb02.trans (hb3.mono hb02.size)
  clear hb02 hb3
  go_wp2_with fail
  go_ret
  exact ⟨rfl, hb03⟩

set_option maxHeartbeats 8000000 in
set_option maxRecDepth 100000 in
theorem sjust_none (l : List Op3) (p : List Int) (v u : Value) (w : World) (hI : IsOps w v l) (hu : IsInts w u p) (hc : (chk l).2 = 0) (hn : serOrd (doneL l) = none) :
    Calls Try.prog 6 #[v, u] w fun e w' => e = .returned (.bool true) ∧ Below w.heap.size w w' := by
  obtain ⟨r, hr, hr2⟩ := just_ring hn
  have HI : Hid (∀ W, Below w.heap.size w W → IsOps W v l) := fun W hW => hI.below hW (Nat.le_refl _)
  have HE : Hid (∀ W, Below w.heap.size w W → Calls Try.prog 12 #[v] W fun e w' => ∃ v', e = .returned (.tuple #[v', .nilIface]) ∧ IsEdges w' v' (edgesTo (doneL l) 36) ∧ Below W.heap.size W w') := fun W hW => edges_ok l v W (HI.out W hW) hc
  have HO : Hid (∀ W, Below w.heap.size w W → Calls Try.prog 17 #[v] W fun e w' => e = .returned (.tuple #[.slice none 0 0, .iface 70 (.int .i64 8)]) ∧ Below W.heap.size W w') := fun W hW => by
    refine (ord_any l v W (HI.out W hW) hc).mono ?_
    rintro e w' ⟨⟨o, v', ho, -⟩ | ⟨-, he⟩, hb⟩
    · rw [hn] at ho; cases ho
    · exact ⟨he, hb⟩
  have HR : Hid (∀ W x, IsEdges W x (edgesTo (doneL l) 36) → Calls Try.prog 18 #[x] W fun e w' => ∃ (ad : Option Addr) (n cap : Nat), e = .returned (.tuple #[.slice ad n cap, .nilIface]) ∧ 2 ≤ n ∧ Below W.heap.size W w') := fun W x hx => by
    refine (ring_any _ x W hx (edges_gchk _ _)).mono ?_
    rintro e w' ⟨⟨r', v', hr', rfl, h1⟩ | ⟨hq, -⟩, hb⟩
    · rw [hr] at hr'
      obtain rfl := Option.some.inj hr'
      obtain ⟨ad, b, off, cap, rfl, -⟩ := h1
      exact ⟨ad, _, cap, rfl, by simpa using hr2, hb⟩
    · rw [hr] at hq; cases hq
  have HD : Hid (∀ W, Below w.heap.size w W → Calls Try.prog 9 #[v] W fun e w' => ∃ v', e = .returned (.tuple #[v', .nilIface]) ∧ IsOps w' v' (doneL l) ∧ Below W.heap.size W w') := fun W hW => done_ok l v W (HI.out W hW) hc
  have HS : Hid (∀ W, Below w.heap.size w W → Calls Try.prog 8 #[v, u] W fun e w' => ∃ vs er s, e = .returned (.tuple #[vs, er]) ∧ IsOps w' vs s ∧ (chk s).2 = 0 ∧ ((er = .nilIface ∧ sameB s (doneL l) = false) ∨ er = .iface 70 (.int .i64 3)) ∧ Below W.heap.size W w') := fun W hW => by
    by_cases hp : sortI p = dealsL (doneL l)
    · refine (ser_ok l p v u W (HI.out W hW) (hu.below hW (Nat.le_refl _)) hc hp).mono ?_
      rintro e w' ⟨v', rfl, h1, hb⟩
      exact ⟨v', _, _, rfl, h1, along_chk (chk_done hc) hp, .inl ⟨rfl, just_none (doing_done hc) hn hp⟩, hb⟩
    · refine (ser_shape l p v u W (HI.out W hW) (hu.below hW (Nat.le_refl _)) hc (by simpa using hp)).mono ?_
      rintro e w' ⟨rfl, hb⟩
      exact ⟨_, _, [], rfl, isOps_nil _, rfl, .inr rfl, hb⟩
  have HM : Hid (∀ W s vs vd, IsOps W vs s → (chk s).2 = 0 → IsOps W vd (doneL l) → Calls Try.prog 10 #[vs, vd] W fun e w' => e = .returned (.tuple #[.bool (sameB s (doneL l)), .nilIface]) ∧ Below W.heap.size W w') := fun W s vs vd h1 h2 h3 => same_ok s (doneL l) vs vd W h1 h3 h2 (chk_done hc)
  clear hI hu hc hn hr hr2 HI
  go_enter Try.func6, Try.ntmps6
  go_wp2_with fail
  refine (just_fact _ _ (by simp)).mono ?_
  rintro e w1 ⟨b1, o1, c1, rfl, hc1, hb1⟩
  go_wp2_with fail
  refine (HE.out _ hb1).mono ?_
  rintro e w2 ⟨v2, rfl, hE2, hb2⟩
  have HB2 : Hid (Below w.heap.size w w2) := hb1.trans (hb2.mono hb1.size)
  have HE2 : Hid (∀ W, Below w2.heap.size w2 W → IsEdges W v2 (edgesTo (doneL l) 36)) := fun W hW => hE2.below hW (Nat.le_refl _)
  clear hc1 hb1 hb2 hE2 HE
  go_wp2_with fail
  refine (HO.out _ HB2.out).mono ?_
  rintro e w3 ⟨rfl, hb3⟩
  have HB3 : Hid (Below w.heap.size w w3) := HB2.out.trans (hb3.mono HB2.out.size)
  have HE3 : Hid (IsEdges w3 v2 (edgesTo (doneL l) 36)) := HE2.out _ hb3
  clear hb3 HE2 HB2 HO
  go_wp2_with fail
  refine (HR.out _ _ HE3.out).mono ?_
  rintro e w4 ⟨ad4, n4, cap4, rfl, hn4, hb4⟩
  have HB4 : Hid (Below w.heap.size w w4) := HB3.out.trans (hb4.mono HB3.out.size)
  clear hb4 HB3 HE3 HR
  go_wp2_with fail
  refine (HD.out _ HB4.out).mono ?_
  rintro e w5 ⟨v5, rfl, hI5, hb5⟩
  have HB5 : Hid (Below w.heap.size w w5) := HB4.out.trans (hb5.mono HB4.out.size)
  have HI5 : Hid (∀ W, Below w5.heap.size w5 W → IsOps W v5 (doneL l)) := fun W hW => hI5.below hW (Nat.le_refl _)
  have g2 : ¬ (n4 : Int) < 2 := by omega
  clear hb5 hI5 HB4 HD hn4
  go_wp2_with fail
  go_quiet (fail)
  go_wp2_with fail
  refine (HS.out _ (below_drewN HB5.out _)).mono ?_
  rintro e w6 ⟨v6, er, s, rfl, hI6, hc6, hor, hb6⟩
  have HB6 : Hid (Below w5.heap.size w5 w6) := (below_drewN (Below.refl _ w5) _).trans (hb6.mono (by simp))
  have HK6 : Hid (IsOps w6 v6 s ∧ (chk s).2 = 0) := ⟨hI6, hc6⟩
  clear hb6 hI6 hc6 HS
  go_wp2_with fail
  refine (HM.out _ _ _ _ HK6.out.1 HK6.out.2 (HI5.out _ HB6.out)).mono ?_
  rintro e w7 ⟨rfl, hb7⟩
  have HB7 : Hid (Below w5.heap.size w5 w7) := HB6.out.trans (hb7.mono HB6.out.size)
  clear hb7 HM HK6 HB6 HI5
  rcases hor with ⟨rfl, hs⟩ | rfl
  · rw [hs]
    go_wp2_with fail
    go_ret
    exact ⟨rfl, HB5.out.trans (HB7.out.mono HB5.out.size)⟩
  · go_wp2_with fail
    go_ret
    exact ⟨rfl, HB5.out.trans (HB7.out.mono HB5.out.size)⟩

set_option maxHeartbeats 8000000 in
set_option maxRecDepth 100000 in
theorem sjust_some (hV : ValuesOk) (l : List Op3) (o : List Int) (v u : Value) (w : World) (hI : IsOps w v l) (hc : (chk l).2 = 0) (ho : serOrd (doneL l) = some o) :
    Calls Try.prog 6 #[v, u] w fun e w' => e = .returned (.bool true) ∧ Below w.heap.size w w' := by
  have hcd := chk_done hc
  obtain ⟨hso, hcs, hds, hsame, hser⟩ := just_some (doing_done hc) hcd ho
  obtain ⟨s, hs⟩ : ∃ s, alongL (doneL l) o = s := ⟨_, rfl⟩
  rw [hs] at hcs hds hsame hser
  have hval : valsL (doneL s) = valsL (doneL l) := by
    rw [hds]
    exact vals_same (chk_ops hcs) (chk_ops hcd) (same_sight (chk_ops hcs) (chk_ops hcd) hsame)
  have HI : Hid (∀ W, Below w.heap.size w W → IsOps W v l) := fun W hW => hI.below hW (Nat.le_refl _)
  have HE : Hid (∀ W, Below w.heap.size w W → Calls Try.prog 12 #[v] W fun e w' => ∃ v', e = .returned (.tuple #[v', .nilIface]) ∧ IsEdges w' v' (edgesTo (doneL l) 36) ∧ Below W.heap.size W w') := fun W hW => edges_ok l v W (HI.out W hW) hc
  have HO : Hid (∀ W, Below w.heap.size w W → Calls Try.prog 17 #[v] W fun e w' => ∃ v', e = .returned (.tuple #[v', .nilIface]) ∧ IsInts w' v' o ∧ Below W.heap.size W w') := fun W hW => by
    refine (ord_any l v W (HI.out W hW) hc).mono ?_
    rintro e w' ⟨⟨o', v', ho', he, h1⟩ | ⟨hn, -⟩, hb⟩
    · rw [ho] at ho'
      obtain rfl := Option.some.inj ho'
      exact ⟨v', he, h1, hb⟩
    · rw [ho] at hn; cases hn
  have HR : Hid (∀ W x, IsEdges W x (edgesTo (doneL l) 36) → Calls Try.prog 18 #[x] W fun e w' => e = .returned (.tuple #[.slice none 0 0, .iface 70 (.int .i64 5)]) ∧ Below W.heap.size W w') := fun W x hx => by
    refine (ring_any _ x W hx (edges_gchk _ _)).mono ?_
    rintro e w' ⟨⟨r', v', hr', -⟩ | ⟨-, he⟩, hb⟩
    · rw [just_noring ho] at hr'; cases hr'
    · exact ⟨he, hb⟩
  have HD : Hid (∀ W, Below w.heap.size w W → Calls Try.prog 9 #[v] W fun e w' => ∃ v', e = .returned (.tuple #[v', .nilIface]) ∧ IsOps w' v' (doneL l) ∧ Below W.heap.size W w') := fun W hW => done_ok l v W (HI.out W hW) hc
  have HS : Hid (∀ W x, Below w.heap.size w W → IsInts W x o → Calls Try.prog 8 #[v, x] W fun e w' => ∃ v', e = .returned (.tuple #[v', .nilIface]) ∧ IsOps w' v' s ∧ Below W.heap.size W w') := fun W x hW hx => by
    rw [← hs]
    exact ser_ok l o v x W (HI.out W hW) hx hc hso
  have HM : Hid (∀ W vs vd, IsOps W vs s → IsOps W vd (doneL l) → Calls Try.prog 10 #[vs, vd] W fun e w' => e = .returned (.tuple #[.bool true, .nilIface]) ∧ Below W.heap.size W w') := fun W vs vd h1 h2 => by
    have := same_ok s (doneL l) vs vd W h1 h2 hcs hcd
    rw [hsame] at this
    exact this
  have HIs : Hid (∀ W vs, IsOps W vs s → Calls Try.prog 19 #[vs] W fun e w' => e = .returned (.tuple #[.bool true, .nilIface]) ∧ Below W.heap.size W w') := fun W vs h1 => by
    have := is_ok s vs W h1 hcs
    rw [hds, hser] at this
    exact this
  have HV : Hid (∀ W, Below w.heap.size w W → Calls Try.prog 13 #[v] W fun e w' => ∃ v', e = .returned (.tuple #[v', .nilIface]) ∧ IsInts w' v' (valsL (doneL l)) ∧ Below W.heap.size W w') := fun W hW => hV l v W (HI.out W hW) hc
  have HV2 : Hid (∀ W vs, IsOps W vs s → Calls Try.prog 13 #[vs] W fun e w' => ∃ v', e = .returned (.tuple #[v', .nilIface]) ∧ IsInts w' v' (valsL (doneL l)) ∧ Below W.heap.size W w') := fun W vs h1 => by
    have := hV s vs W h1 hcs
    rw [hval] at this
    exact this
  clear hI hc ho hV hcd hso hcs hds hsame hser hs hval HI
  go_enter Try.func6, Try.ntmps6
  go_wp2_with fail
  refine (just_fact _ _ (by simp)).mono ?_
  rintro e w1 ⟨b1, o1, c1, rfl, hc1, hb1⟩
  go_wp2_with fail
  refine (HE.out _ hb1).mono ?_
  rintro e w2 ⟨v2, rfl, hE2, hb2⟩
  have HB2 : Hid (Below w.heap.size w w2) := hb1.trans (hb2.mono hb1.size)
  have HE2 : Hid (∀ W, Below w2.heap.size w2 W → IsEdges W v2 (edgesTo (doneL l) 36)) := fun W hW => hE2.below hW (Nat.le_refl _)
  clear hc1 hb1 hb2 hE2 HE
  go_wp2_with fail
  refine (HO.out _ HB2.out).mono ?_
  rintro e w3 ⟨v3, rfl, hI3, hb3⟩
  have HB3 : Hid (Below w.heap.size w w3) := HB2.out.trans (hb3.mono HB2.out.size)
  have HE3 : Hid (IsEdges w3 v2 (edgesTo (doneL l) 36)) := HE2.out _ hb3
  have HI3 : Hid (∀ W, Below w3.heap.size w3 W → IsInts W v3 o) := fun W hW => hI3.below hW (Nat.le_refl _)
  clear hb3 HE2 HB2 HO hI3
  go_wp2_with fail
  refine (HR.out _ _ HE3.out).mono ?_
  rintro e w4 ⟨rfl, hb4⟩
  have HB4 : Hid (Below w3.heap.size w3 w4) := hb4
  have HW : Hid (∀ W, Below w3.heap.size w3 W → Below w.heap.size w W) := fun W hW => HB3.out.trans (hW.mono HB3.out.size)
  clear hb4 HE3 HR
  go_wp2_with fail
  refine (HD.out _ (HW.out _ HB4.out)).mono ?_
  rintro e w5 ⟨v5, rfl, hI5, hb5⟩
  have HB5 : Hid (Below w3.heap.size w3 w5) := HB4.out.trans (hb5.mono HB4.out.size)
  have HI5 : Hid (∀ W, Below w5.heap.size w5 W → IsOps W v5 (doneL l)) := fun W hW => hI5.below hW (Nat.le_refl _)
  clear hb5 hI5 HB4 HD
  go_wp2_with fail
  go_quiet (fail)
  go_wp2_with fail
  refine (HS.out _ _ (HW.out _ (below_drewN HB5.out _)) (HI3.out _ (below_drewN HB5.out _))).mono ?_
  rintro e w6 ⟨v6, rfl, hI6, hb6⟩
  have HB6 : Hid (Below w5.heap.size w5 w6) := (below_drewN (Below.refl _ w5) _).trans (hb6.mono (by simp))
  have HK6 : Hid (∀ W, Below w6.heap.size w6 W → IsOps W v6 s) := fun W hW => hI6.below hW (Nat.le_refl _)
  clear hb6 hI6 HS HI3
  go_wp2_with fail
  refine (HM.out _ _ _ (HK6.out _ (Below.refl _ _)) (HI5.out _ HB6.out)).mono ?_
  rintro e w7 ⟨rfl, hb7⟩
  have HB7 : Hid (Below w6.heap.size w6 w7) := hb7
  clear hb7 HM HI5
  go_wp2_with fail
  refine (HIs.out _ _ (HK6.out _ HB7.out)).mono ?_
  rintro e w8 ⟨rfl, hb8⟩
  have HB8 : Hid (Below w6.heap.size w6 w8) := HB7.out.trans (hb8.mono HB7.out.size)
  have HX : Hid (∀ W, Below w6.heap.size w6 W → Below w.heap.size w W) := fun W hW => HW.out _ (HB5.out.trans ((HB6.out.trans (hW.mono HB6.out.size)).mono HB5.out.size))
  clear hb8 HIs HB7
  go_wp2_with fail
  refine (HV.out _ (HX.out _ HB8.out)).mono ?_
  rintro e w9 ⟨v9, rfl, hI9, hb9⟩
  have HB9 : Hid (Below w6.heap.size w6 w9) := HB8.out.trans (hb9.mono HB8.out.size)
  have HI9 : Hid (∀ W, Below w9.heap.size w9 W → IsInts W v9 (valsL (doneL l))) := fun W hW => hI9.below hW (Nat.le_refl _)
  clear hb9 hI9 HV HB8
  go_wp2_with fail
  refine (HV2.out _ _ (HK6.out _ HB9.out)).mono ?_
  rintro e w10 ⟨v10, rfl, hI10, hb10⟩
  have HB10 : Hid (Below w6.heap.size w6 w10) := HB9.out.trans (hb10.mono HB9.out.size)
  have HI9' : Hid (IsInts w10 v9 (valsL (doneL l))) := HI9.out _ hb10
  have HI10 : Hid (IsInts w10 v10 (valsL (doneL l))) := hI10
  clear hb10 hI10 HV2 HB9 HI9
  go_wp2_with fail
  refine (same_ints _ _ _ _ HI9'.out HI10.out (vals_few _)).mono ?_
  rintro e w11 ⟨rfl, hb11⟩
  have HB11 : Hid (Below w6.heap.size w6 w11) := HB10.out.trans (hb11.mono HB10.out.size)
  clear hb11 HB10
  go_wp2_with fail
  go_ret
  exact ⟨rfl, HX.out _ HB11.out⟩

theorem sjust_walk (hV : ValuesOk) (l : List Op3) (p : List Int) (v u : Value) (w : World) (hI : IsOps w v l) (hu : IsInts w u p) :
    Calls Try.prog 6 #[v, u] w fun e w' => e = .returned (.bool true) ∧ Below w.heap.size w w' := by
  by_cases hc : (chk l).2 = 0
  · cases ho : serOrd (doneL l) with
    | none => exact sjust_none l p v u w hI hu hc ho
    | some o => exact sjust_some hV l o v u w hI hc ho
  · exact sjust_bad l v u w hI hc
end Go.Proofs.Ytgnbejemhdcemac
