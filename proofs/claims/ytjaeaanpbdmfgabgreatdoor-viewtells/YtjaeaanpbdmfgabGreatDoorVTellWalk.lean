/-
  PROVED HERE: lanelaw1.ViewTells returns true at any two lists, and what was there stays as it was.
  Conditions: the variable errors.errorType holds the handle of the type error (the row lists it).
-/
import Derived.Test.YtjaeaanpbdmfgabGreatDoorViewLast
import Derived.Test.YtjaeaanpbdmfgabGreatDoorViewOrder
import Derived.Test.YtjaeaanpbdmfgabGreatDoorRefVOrder
import Derived.Test.YtjaeaanpbdmfgabGreatDoorRefHist
import Derived.Test.YtjaeaanpbdmfgabGreatDoorMgca
namespace Go.Proofs.YtjaeaanpbdmfgabGreatDoor
open Go.RowKit Go.Maps

theorem err_yes (n : Int) (w : World) (hg : EtAt w) : Calls Tryz.prog 12 #[.iface 58 (.int .i64 n), .int .i64 n] w fun e w' => e = .returned (.bool true) ∧ Below w.heap.size w w' :=
  (error_hit n n w hg).mono fun _ _ ⟨he, hb⟩ => ⟨by rw [he]; simp, hb⟩
theorem err_no (w : World) : Calls Tryz.prog 12 #[.nilIface, .int .i64 0] w fun e w' => e = .returned (.bool true) ∧ Below w.heap.size w w' :=
  (error_nil 0 w).mono fun _ _ ⟨he, hw⟩ => ⟨he, by rw [hw]; exact Below.refl _ _⟩

set_option maxHeartbeats 16000000 in
set_option maxRecDepth 100000 in
theorem vtell_bad (h : List Op3) (v u : Value) (w : World) (hI : IsOps w v h) (hc : (chk h).2 ≠ 0) (hg : EtAt w) :
    Calls Tryz.prog 4 #[v, u] w fun e w' => e = .returned (.bool true) ∧ Below w.heap.size w w' := by
  have HIE : Hid (∀ W, Below w.heap.size w W → IsOps W v h ∧ EtAt W) := fun W hW => ⟨hI.below hW (Nat.le_refl _), hg.below hW hg.lt⟩
  have HST : Hid (∀ W W', Below w.heap.size w W → Below W.heap.size W W' → Below w.heap.size w W') := fun W W' h1 h2 => h1.trans (h2.mono h1.size)
  obtain ⟨n, hn⟩ : ∃ n, (chk h).2 = n := ⟨_, rfl⟩
  have HC : Hid ((chk h).2 = n) := hn
  have hn0 : n ≠ 0 := by rw [← hn]; exact hc
  have hn' : (n == 0) = false := by simpa using hn0
  have HN : Hid ((chk h).2 ≠ 0) := hc
  clear hn hc hn0 hI hg
  go_enter Tryz.func4, Tryz.ntmps4
  go_wp2_with fail
  refine (refRight_any h _ _ (HIE.out w (Below.refl _ _)).1).mono ?_
  rintro e w1 ⟨rfl, hq1⟩
  have hb1 := hq1
  rw [HC.out]
  clear hq1
  go_wp2_with fail
  refine (vreads_bad h _ _ (HIE.out _ hb1).1 HN.out).mono ?_
  rintro e w2 ⟨rfl, hq2⟩
  have hb2 := HST.out _ _ hb1 hq2
  rw [HC.out]
  clear hq2 hb1
  go_wp2_with fail
  refine (err_yes n _ (HIE.out _ hb2).2).mono ?_
  rintro e w3 ⟨rfl, hq3⟩
  have hb3 := HST.out _ _ hb2 hq3
  clear hq3 hb2
  go_wp2_with fail
  refine (sources_any [] _ _ _ (isEdges_nil _) (isEdges_nil _) (by simp)).mono ?_
  rintro e w4 ⟨rfl, hq4⟩
  have hb4 := HST.out _ _ hb3 hq4
  clear hq4 hb3
  go_wp2_with fail
  refine (vlast_bad h _ _ (HIE.out _ hb4).1 HN.out).mono ?_
  rintro e w5 ⟨rfl, hq5⟩
  have hb5 := HST.out _ _ hb4 hq5
  rw [HC.out]
  clear hq5 hb4
  go_wp2_with fail
  refine (err_yes n _ (HIE.out _ hb5).2).mono ?_
  rintro e w6 ⟨rfl, hq6⟩
  have hb6 := HST.out _ _ hb5 hq6
  clear hq6 hb5
  go_wp2_with fail
  refine (same_ints [] _ _ _ (isInts_nil _) (isInts_nil _) (by simp)).mono ?_
  rintro e w7 ⟨rfl, hq7⟩
  have hb7 := HST.out _ _ hb6 hq7
  clear hq7 hb6
  go_wp2_with fail
  refine (vorder_bad h _ _ (HIE.out _ hb7).1 HN.out).mono ?_
  rintro e w8 ⟨rfl, hq8⟩
  have hb8 := HST.out _ _ hb7 hq8
  rw [HC.out]
  clear hq8 hb7
  go_wp2_with fail
  refine (err_yes n _ (HIE.out _ hb8).2).mono ?_
  rintro e w9 ⟨rfl, hq9⟩
  have hb9 := HST.out _ _ hb8 hq9
  clear hq9 hb8
  go_wp2_with fail
  refine (same_ints [] _ _ _ (isInts_nil _) (isInts_nil _) (by simp)).mono ?_
  rintro e w10 ⟨rfl, hq10⟩
  have hb10 := HST.out _ _ hb9 hq10
  clear hq10 hb9
  go_wp2_with fail
  refine (vsame_bad h _ _ _ (HIE.out _ hb10).1 HN.out).mono ?_
  rintro e w11 ⟨rfl, hq11⟩
  have hb11 := HST.out _ _ hb10 hq11
  rw [HC.out]
  clear hq11 hb10
  go_wp2_with fail
  refine (err_yes n _ (HIE.out _ hb11).2).mono ?_
  rintro e w12 ⟨rfl, hq12⟩
  have hb12 := HST.out _ _ hb11 hq12
  clear hq12 hb11
  go_wp2_with fail
  go_ret
  exact ⟨rfl, hb12⟩

set_option maxHeartbeats 16000000 in
set_option maxRecDepth 100000 in
theorem vtell_ok (h g : List Op3) (v u : Value) (w : World) (hI : IsOps w v h) (hJ : IsOps w u g) (hc : (chk h).2 = 0) (hg : EtAt w) :
    Calls Tryz.prog 4 #[v, u] w fun e w' => e = .returned (.bool true) ∧ Below w.heap.size w w' := by
  have HIE : Hid (∀ W, Below w.heap.size w W → IsOps W v h ∧ IsOps W u g ∧ EtAt W) := fun W hW => ⟨hI.below hW (Nat.le_refl _), hJ.below hW (Nat.le_refl _), hg.below hW hg.lt⟩
  have HST : Hid (∀ W W', Below w.heap.size w W → Below W.heap.size W W' → Below w.heap.size w W') := fun W W' h1 h2 => h1.trans (h2.mono h1.size)
  have hcd := chk_done hc
  have hdn : ∀ W, Below w.heap.size w W → Calls Tryz.prog 7 #[v] W fun e w' => ∃ v', e = .returned v' ∧ IsOps w' v' (doneL h) ∧ Room v' ∧ Below W.heap.size W w' := fun W hW => refDone_room h v W (hI.below hW (Nat.le_refl _)) hc
  have hrd := fun W (hW : Below w.heap.size w W) => vreads_ok h v W (hI.below hW (Nat.le_refl _)) hc
  have hls := fun W (hW : Below w.heap.size w W) => vlast_ok h v W (hI.below hW (Nat.le_refl _)) hc
  have hor := fun W (hW : Below w.heap.size w W) => vorder_any h v W (hI.below hW (Nat.le_refl _)) hc
  have HC : Hid ((chk h).2 = 0) := hc
  obtain ⟨d, hd⟩ : ∃ d, doneL h = d := ⟨_, rfl⟩
  have HDH : Hid (doneL h = d) := hd
  rw [hd] at hcd hdn hrd hls hor
  have HCD : Hid ((chk d).2 = 0) := hcd
  have HDN : Hid (∀ W, Below w.heap.size w W → Calls Tryz.prog 7 #[v] W fun e w' => ∃ v', e = .returned v' ∧ IsOps w' v' d ∧ Room v' ∧ Below W.heap.size W w') := hdn
  have HRD : Hid (∀ W, Below w.heap.size w W → Calls Tryz.prog 19 #[v] W fun e w' => ∃ v', e = .returned (.tuple #[v', .nilIface]) ∧ IsEdges w' v' (readsTo d d.length) ∧ Below W.heap.size W w') := hrd
  have HLS : Hid (∀ W, Below w.heap.size w W → Calls Tryz.prog 21 #[v] W fun e w' => ∃ v', e = .returned (.tuple #[v', .nilIface]) ∧ IsInts w' v' (lastI d d.length 6) ∧ Below W.heap.size W w') := hls
  have HOR : Hid (∀ W, Below w.heap.size w W → Calls Tryz.prog 23 #[v] W fun e w' => ((∃ (r : List Int) (v' : Value), lookO d = some r ∧ e = .returned (.tuple #[v', .nilIface]) ∧ IsInts w' v' r) ∨ (lookO d = none ∧ e = .returned (.tuple #[.slice none 0 0, .iface 58 (.int .i64 5)]))) ∧ Below W.heap.size W w') := hor
  have HL : Hid (d.length ≤ 40 ∧ (∀ o ∈ d, isOpB o = true)) := ⟨chk_len hcd, chk_ops hcd⟩
  clear hcd hdn hrd hls hor hd hI hJ hc hg
  go_enter Tryz.func4, Tryz.ntmps4
  go_wp2_with fail
  refine (refRight_any h _ _ (HIE.out w (Below.refl _ _)).1).mono ?_
  rintro e w1 ⟨rfl, hq1⟩
  have hb1 := hq1
  rw [HC.out]
  clear hq1
  go_wp2_with fail
  refine (HDN.out _ hb1).mono ?_
  rintro e w2 ⟨v2, rfl, hI2, -, hq2⟩
  have hb2 := HST.out _ _ hb1 hq2
  have HI2 : Hid (IsOps w2 v2 d) := hI2
  clear hI2
  clear hq2 hb1
  go_wp2_with fail
  refine (refReads_any d _ _ HI2.out HL.out.1).mono ?_
  rintro e w3 ⟨v3, rfl, hI3, hq3⟩
  have hb3 := HST.out _ _ hb2 hq3
  have HI3 : Hid (∀ W, Below w3.heap.size w3 W → IsEdges W v3 (readsTo d d.length)) := fun W hW => hI3.below hW (Nat.le_refl _)
  clear hI3 HI2
  clear hq3 hb2
  go_wp2_with fail
  refine (HDN.out _ hb3).mono ?_
  rintro e w4 ⟨v4, rfl, hI4, -, hq4⟩
  have hb4 := HST.out _ _ hb3 hq4
  have HI4 : Hid (IsOps w4 v4 d) := hI4
  have HI34 : Hid (IsEdges w4 v3 (readsTo d d.length)) := HI3.out _ hq4
  clear hI4
  clear hq4 hb3
  go_wp2_with fail
  refine (refLast_any d _ _ HI4.out HL.out.1 HL.out.2).mono ?_
  rintro e w5 ⟨v5, rfl, hI5, hq5⟩
  have hb5 := HST.out _ _ hb4 hq5
  have HI5 : Hid (IsInts w5 v5 (lastI d d.length 6)) := hI5
  have HI35 : Hid (IsEdges w5 v3 (readsTo d d.length)) := HI34.out.below hq5 (Nat.le_refl _)
  clear hI5 HI4 HI34
  clear hq5 hb4
  go_wp2_with fail
  refine (HRD.out _ hb5).mono ?_
  rintro e w6 ⟨v6, rfl, hI6, hq6⟩
  have hb6 := HST.out _ _ hb5 hq6
  have HI6 : Hid (IsEdges w6 v6 (readsTo d d.length)) := hI6
  have HI36 : Hid (IsEdges w6 v3 (readsTo d d.length)) := HI35.out.below hq6 (Nat.le_refl _)
  have HI56 : Hid (IsInts w6 v5 (lastI d d.length 6)) := HI5.out.below hq6 (Nat.le_refl _)
  clear hI6 HI35 HI5
  clear hq6 hb5
  go_wp2_with fail
  refine (err_no _).mono ?_
  rintro e w7 ⟨rfl, hq7⟩
  have hb7 := HST.out _ _ hb6 hq7
  have HI67 : Hid (IsEdges w7 v6 (readsTo d d.length)) := HI6.out.below hq7 (Nat.le_refl _)
  have HI37 : Hid (IsEdges w7 v3 (readsTo d d.length)) := HI36.out.below hq7 (Nat.le_refl _)
  have HI57 : Hid (IsInts w7 v5 (lastI d d.length 6)) := HI56.out.below hq7 (Nat.le_refl _)
  clear HI6 HI36 HI56
  clear hq7 hb6
  go_wp2_with fail
  refine (sources_any (readsTo d d.length) _ _ _ HI67.out HI37.out (by have := readsTo_len d d.length; have := HL.out.1; omega)).mono ?_
  rintro e w8 ⟨rfl, hq8⟩
  have hb8 := HST.out _ _ hb7 hq8
  have HI58 : Hid (IsInts w8 v5 (lastI d d.length 6)) := HI57.out.below hq8 (Nat.le_refl _)
  clear HI67 HI37 HI57
  clear hq8 hb7
  go_wp2_with fail
  refine (HLS.out _ hb8).mono ?_
  rintro e w9 ⟨v9, rfl, hI9, hq9⟩
  have hb9 := HST.out _ _ hb8 hq9
  have HI9 : Hid (IsInts w9 v9 (lastI d d.length 6)) := hI9
  have HI59 : Hid (IsInts w9 v5 (lastI d d.length 6)) := HI58.out.below hq9 (Nat.le_refl _)
  clear hI9 HI58
  clear hq9 hb8
  go_wp2_with fail
  refine (err_no _).mono ?_
  rintro e w10 ⟨rfl, hq10⟩
  have hb10 := HST.out _ _ hb9 hq10
  have HI910 : Hid (IsInts w10 v9 (lastI d d.length 6)) := HI9.out.below hq10 (Nat.le_refl _)
  have HI510 : Hid (IsInts w10 v5 (lastI d d.length 6)) := HI59.out.below hq10 (Nat.le_refl _)
  clear HI9 HI59
  clear hq10 hb9
  go_wp2_with fail
  refine (same_ints (lastI d d.length 6) _ _ _ HI910.out HI510.out (by rw [lastI_len]; omega)).mono ?_
  rintro e w11 ⟨rfl, hq11⟩
  have hb11 := HST.out _ _ hb10 hq11
  clear HI910 HI510
  clear hq11 hb10
  go_wp2_with fail
  refine (HDN.out _ hb11).mono ?_
  rintro e w12 ⟨v12, rfl, hI12, hR12, hq12⟩
  have hb12 := HST.out _ _ hb11 hq12
  have HI12 : Hid (IsOps w12 v12 d ∧ Room v12) := ⟨hI12, hR12⟩
  clear hI12 hR12
  clear hq12 hb11
  go_wp2_with fail
  refine (vord_any HCD.out (dealsL d).length [] v12 (.slice none 0 0) _ HI12.out.1 HI12.out.2 (isInts_nil _) (Begun.nil _) (by simp)).mono ?_
  rintro e w13 ⟨v13, r, ok, rfl, hor, hI13, hr6, hq13⟩
  have hb13 := HST.out _ _ hb12 hq13
  have HI13 : Hid (∀ W, Below w13.heap.size w13 W → IsInts W v13 r) := fun W hW => hI13.below hW (Nat.le_refl _)
  clear hI13 HI12
  have HR6 : Hid (r.length ≤ 6) := hr6
  clear hr6
  clear hq13 hb12
  rcases hor with ⟨hs, rfl⟩ | ⟨hs, rfl⟩
  · have HS : Hid (lookO d = some r) := hs
    clear hs
    go_wp2_with fail
    refine (HOR.out _ hb13).mono ?_
    rintro e w14 ⟨⟨r', v14, hs', rfl, hI14⟩ | ⟨hs', -⟩, hq14⟩
    · obtain rfl : r' = r := by rw [HS.out] at hs'; exact (Option.some.inj hs').symm
      have HI14 : Hid (IsInts w14 v14 r') := hI14
      have HV14 : Hid (IsInts w14 v13 r') := HI13.out _ hq14
      have hb14 := HST.out _ _ hb13 hq14
      clear hs' hI14 hq14 hb13
      go_wp2_with fail
      refine (err_no _).mono ?_
      rintro e w15 ⟨rfl, hq15⟩
      have hb15 := HST.out _ _ hb14 hq15
      have HI15 : Hid (IsInts w15 v14 r') := HI14.out.below hq15 (Nat.le_refl _)
      have HV15 : Hid (IsInts w15 v13 r') := HV14.out.below hq15 (Nat.le_refl _)
      clear HI14 HV14
      clear hq15 hb14
      go_wp2_with fail
      refine (same_ints r' _ _ _ HI15.out HV15.out (by have := HR6.out; omega)).mono ?_
      rintro e w16 ⟨rfl, hq16⟩
      have hb16 := HST.out _ _ hb15 hq16
      clear HI15 HV15
      clear hq16 hb15
      go_wp2_with fail
      refine (refRight_any g _ _ (HIE.out _ hb16).2.1).mono ?_
      rintro e w17 ⟨rfl, hq17⟩
      have hb17 := HST.out _ _ hb16 hq17
      clear hq17 hb16
      cases hgn : decide ((chk g).2 = 0) with
      | true =>
        have hg0 : (chk g).2 = 0 := by simpa using hgn
        have HG : Hid ((chk g).2 = 0) := hg0
        rw [hg0]
        clear hgn hg0
        go_wp2_with fail
        refine (HDN.out _ hb17).mono ?_
        rintro e w18 ⟨v18, rfl, hI18, hR18, hq18⟩
        have hb18 := HST.out _ _ hb17 hq18
        have HI18 : Hid (IsOps w18 v18 d ∧ Room v18) := ⟨hI18, hR18⟩
        clear hI18 hR18
        clear hq18 hb17
        go_wp2_with fail
        refine (refDone_room g _ _ (HIE.out _ hb18).2.1 HG.out).mono ?_
        rintro e w19 ⟨v19, rfl, hI19, hR19, hq19⟩
        have hb19 := HST.out _ _ hb18 hq19
        have HI19 : Hid (IsOps w19 v19 (doneL g) ∧ Room v19) := ⟨hI19, hR19⟩
        have HI189 : Hid (IsOps w19 v18 d) := HI18.out.1.below hq19 (Nat.le_refl _)
        clear hI19 hR19
        clear hq19 hb18
        go_wp2_with fail
        refine (refViews_any d (doneL g) _ _ _ HI189.out HI18.out.2 HI19.out.1 HI19.out.2 HCD.out (chk_done HG.out)).mono ?_
        rintro e w20 ⟨rfl, hq20⟩
        have hb20 := HST.out _ _ hb19 hq20
        clear HI189 HI18 HI19
        clear hq20 hb19
        go_wp2_with fail
        refine (vsame_ok h g _ _ _ (HIE.out _ hb20).1 (HIE.out _ hb20).2.1 HC.out HG.out).mono ?_
        rintro e w21 ⟨rfl, hq21⟩
        have hb21 := HST.out _ _ hb20 hq21
        rw [HDH.out]
        clear hq21 hb20
        go_wp2_with fail
        refine (err_no _).mono ?_
        rintro e w22 ⟨rfl, hq22⟩
        have hb22 := HST.out _ _ hb21 hq22
        clear hq22 hb21
        obtain ⟨q, hq⟩ : ∃ q, sightB d (doneL g) = q := ⟨_, rfl⟩
        rw [hq]
        clear hq
        have hqq : (q == q) = true := by cases q <;> rfl
        go_wp2_with fail
        go_ret
        exact ⟨rfl, hb22⟩
      | false =>
        have hg0 : (chk g).2 ≠ 0 := by simpa using hgn
        have HG : Hid ((chk g).2 ≠ 0) := hg0
        obtain ⟨n, hn⟩ : ∃ n, (chk g).2 = n := ⟨_, rfl⟩
        have HN : Hid ((chk g).2 = n) := hn
        have hn0 : n ≠ 0 := by rw [← hn]; exact hg0
        have hn' : (n == 0) = false := by simpa using hn0
        rw [hn]
        clear hgn hg0 hn hn0
        go_wp2_with fail
        refine (vsame_bad2 h g _ _ _ (HIE.out _ hb17).1 (HIE.out _ hb17).2.1 HC.out HG.out).mono ?_
        rintro e w18 ⟨rfl, hq18⟩
        have hb18 := HST.out _ _ hb17 hq18
        rw [HN.out]
        clear hq18 hb17
        go_wp2_with fail
        refine (err_yes n _ (HIE.out _ hb18).2.2).mono ?_
        rintro e w19 ⟨rfl, hq19⟩
        have hb19 := HST.out _ _ hb18 hq19
        clear hq19 hb18
        go_wp2_with fail
        go_ret
        exact ⟨rfl, hb19⟩
    · rw [HS.out] at hs'; cases hs'
  · have HS : Hid (lookO d = none) := hs
    clear hs
    go_wp2_with fail
    refine (HOR.out _ hb13).mono ?_
    rintro e w14 ⟨⟨r', v14, hs', -⟩ | ⟨-, rfl⟩, hq14⟩
    · rw [HS.out] at hs'; cases hs'
    · have hb14 := HST.out _ _ hb13 hq14
      clear hq14 hb13
      go_wp2_with fail
      refine (err_yes 5 _ (HIE.out _ hb14).2.2).mono ?_
      rintro e w15 ⟨rfl, hq15⟩
      have hb15 := HST.out _ _ hb14 hq15
      clear hq15 hb14
      go_wp2_with fail
      refine (same_ints [] _ _ _ (isInts_nil _) (isInts_nil _) (by simp)).mono ?_
      rintro e w16 ⟨rfl, hq16⟩
      have hb16 := HST.out _ _ hb15 hq16
      clear hq16 hb15
      go_wp2_with fail
      refine (refRight_any g _ _ (HIE.out _ hb16).2.1).mono ?_
      rintro e w17 ⟨rfl, hq17⟩
      have hb17 := HST.out _ _ hb16 hq17
      clear hq17 hb16
      cases hgn : decide ((chk g).2 = 0) with
      | true =>
        have hg0 : (chk g).2 = 0 := by simpa using hgn
        have HG : Hid ((chk g).2 = 0) := hg0
        rw [hg0]
        clear hgn hg0
        go_wp2_with fail
        refine (HDN.out _ hb17).mono ?_
        rintro e w18 ⟨v18, rfl, hI18, hR18, hq18⟩
        have hb18 := HST.out _ _ hb17 hq18
        have HI18 : Hid (IsOps w18 v18 d ∧ Room v18) := ⟨hI18, hR18⟩
        clear hI18 hR18
        clear hq18 hb17
        go_wp2_with fail
        refine (refDone_room g _ _ (HIE.out _ hb18).2.1 HG.out).mono ?_
        rintro e w19 ⟨v19, rfl, hI19, hR19, hq19⟩
        have hb19 := HST.out _ _ hb18 hq19
        have HI19 : Hid (IsOps w19 v19 (doneL g) ∧ Room v19) := ⟨hI19, hR19⟩
        have HI189 : Hid (IsOps w19 v18 d) := HI18.out.1.below hq19 (Nat.le_refl _)
        clear hI19 hR19
        clear hq19 hb18
        go_wp2_with fail
        refine (refViews_any d (doneL g) _ _ _ HI189.out HI18.out.2 HI19.out.1 HI19.out.2 HCD.out (chk_done HG.out)).mono ?_
        rintro e w20 ⟨rfl, hq20⟩
        have hb20 := HST.out _ _ hb19 hq20
        clear HI189 HI18 HI19
        clear hq20 hb19
        go_wp2_with fail
        refine (vsame_ok h g _ _ _ (HIE.out _ hb20).1 (HIE.out _ hb20).2.1 HC.out HG.out).mono ?_
        rintro e w21 ⟨rfl, hq21⟩
        have hb21 := HST.out _ _ hb20 hq21
        rw [HDH.out]
        clear hq21 hb20
        go_wp2_with fail
        refine (err_no _).mono ?_
        rintro e w22 ⟨rfl, hq22⟩
        have hb22 := HST.out _ _ hb21 hq22
        clear hq22 hb21
        obtain ⟨q, hq⟩ : ∃ q, sightB d (doneL g) = q := ⟨_, rfl⟩
        rw [hq]
        clear hq
        have hqq : (q == q) = true := by cases q <;> rfl
        go_wp2_with fail
        go_ret
        exact ⟨rfl, hb22⟩
      | false =>
        have hg0 : (chk g).2 ≠ 0 := by simpa using hgn
        have HG : Hid ((chk g).2 ≠ 0) := hg0
        obtain ⟨n, hn⟩ : ∃ n, (chk g).2 = n := ⟨_, rfl⟩
        have HN : Hid ((chk g).2 = n) := hn
        have hn0 : n ≠ 0 := by rw [← hn]; exact hg0
        have hn' : (n == 0) = false := by simpa using hn0
        rw [hn]
        clear hgn hg0 hn hn0
        go_wp2_with fail
        refine (vsame_bad2 h g _ _ _ (HIE.out _ hb17).1 (HIE.out _ hb17).2.1 HC.out HG.out).mono ?_
        rintro e w18 ⟨rfl, hq18⟩
        have hb18 := HST.out _ _ hb17 hq18
        rw [HN.out]
        clear hq18 hb17
        go_wp2_with fail
        refine (err_yes n _ (HIE.out _ hb18).2.2).mono ?_
        rintro e w19 ⟨rfl, hq19⟩
        have hb19 := HST.out _ _ hb18 hq19
        clear hq19 hb18
        go_wp2_with fail
        go_ret
        exact ⟨rfl, hb19⟩
end Go.Proofs.YtjaeaanpbdmfgabGreatDoor
