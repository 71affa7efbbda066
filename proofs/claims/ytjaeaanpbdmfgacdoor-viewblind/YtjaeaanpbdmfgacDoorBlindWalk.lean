/-
  PROVED HERE: lanelaw4.ViewBlind returns true at any two numbers, and what was there stays as it was.
  Conditions: the variable errors.errorType holds the handle of the type error (the row lists it).
-/
import Derived.Test.YtjaeaanpbdmfgacDoorMgay
import Derived.Test.YtjaeaanpbdmfgacDoorViewOrder
import Derived.Test.YtjaeaanpbdmfgacDoorSerOrder
import Derived.Test.YtjaeaanpbdmfgacDoorTold
namespace Go.Proofs.YtjaeaanpbdmfgacDoor
open Go.RowKit

theorem lookO_nil : lookO (doneL []) = some [] := by decide +kernel
theorem flat_new (w : World) (l : List Op3) (c : Array Value) (h : (flat l).toArray = c) : ∀ j u, (flat l)[j]? = some u → (w.alloc (.cells c 29)).cell? ((⟨w.heap.size, 0, none⟩ : Addr).add j) = some u := by
  intro j u hj
  subst h
  rw [Addr.add_lit, Nat.zero_add, World.cell?_alloc_at _ _ _ _ rfl]
  simpa using hj
set_option maxHeartbeats 8000000 in
set_option maxRecDepth 100000 in
theorem blind_out (a b : Int) (w : World) (h : a < 1 ∨ 6 < a ∨ b < 1 ∨ 6 < b ∨ a = b) :
    Calls Tryd.prog 3 #[.int .i64 a, .int .i64 b] w fun e w' => e = .returned (.bool true) ∧ Below w.heap.size w w' := by
  have HO : Hid (∀ W, Calls Tryd.prog 5 #[.slice none 0 0] W fun e w' => (∃ v', e = .returned (.tuple #[v', .nilIface])) ∧ Below W.heap.size W w') := fun W => by
    refine (vorder_any [] (.slice none 0 0) W (isOps_nil _) rfl).mono ?_
    rintro e w' ⟨⟨r, v', -, he, -⟩ | ⟨hs, -⟩, hb⟩
    · exact ⟨⟨v', he⟩, hb⟩
    · rw [lookO_nil] at hs; cases hs
  by_cases h1 : a < 1
  · clear h
    go_enter Tryd.func3, Tryd.ntmps3
    go_wp2_with fail
    refine (HO.out _).mono ?_
    rintro e w1 ⟨⟨v1, rfl⟩, hb1⟩
    go_wp2_with fail
    go_ret
    exact ⟨rfl, hb1⟩
  · by_cases h2 : 6 < a
    · clear h
      go_enter Tryd.func3, Tryd.ntmps3
      go_wp2_with fail
      refine (HO.out _).mono ?_
      rintro e w1 ⟨⟨v1, rfl⟩, hb1⟩
      go_wp2_with fail
      go_ret
      exact ⟨rfl, hb1⟩
    · by_cases h3 : b < 1
      · clear h
        go_enter Tryd.func3, Tryd.ntmps3
        go_wp2_with fail
        refine (HO.out _).mono ?_
        rintro e w1 ⟨⟨v1, rfl⟩, hb1⟩
        go_wp2_with fail
        go_ret
        exact ⟨rfl, hb1⟩
      · by_cases h4 : 6 < b
        · clear h
          go_enter Tryd.func3, Tryd.ntmps3
          go_wp2_with fail
          refine (HO.out _).mono ?_
          rintro e w1 ⟨⟨v1, rfl⟩, hb1⟩
          go_wp2_with fail
          go_ret
          exact ⟨rfl, hb1⟩
        · have h5 : (a == b) = true := by
            have : a = b := by omega
            simpa using this
          clear h
          go_enter Tryd.func3, Tryd.ntmps3
          go_wp2_with fail
          refine (HO.out _).mono ?_
          rintro e w1 ⟨⟨v1, rfl⟩, hb1⟩
          go_wp2_with fail
          go_ret
          exact ⟨rfl, hb1⟩
set_option maxHeartbeats 8000000 in
set_option maxRecDepth 100000 in
theorem blind_in (a b : Int) (w : World) (ha : 1 ≤ a ∧ a ≤ 6) (hb : 1 ≤ b ∧ b ≤ 6) (hne : a ≠ b) (hg : EtAt w) :
    Calls Tryd.prog 3 #[.int .i64 a, .int .i64 b] w fun e w' => e = .returned (.bool true) ∧ Below w.heap.size w w' := by
  obtain ⟨hc, hd, hs, hlk⟩ := blind_plain ha hb hne
  have HS : Hid (∀ W v, IsOps W v (blindL a b) → Calls Tryd.prog 6 #[v] W fun e w' => e = .returned (.tuple #[.slice none 0 0, .iface 64 (.int .i64 8)]) ∧ Below W.heap.size W w') := fun W v hI => by
    refine (ord_any (blindL a b) v W hI hc).mono ?_
    rintro e w' ⟨⟨o, v', ho, -⟩ | ⟨-, he⟩, hb⟩
    · rw [hd, hs] at ho; cases ho
    · exact ⟨he, hb⟩
  have HV : Hid (∀ W v, IsOps W v (blindL a b) → Calls Tryd.prog 5 #[v] W fun e w' => ∃ v', e = .returned (.tuple #[v', .nilIface]) ∧ IsInts w' v' [1, 2, 3] ∧ Below W.heap.size W w') := fun W v hI => by
    have hk : lookO (blindL a b) = some [1, 2, 3] := hlk
    refine (vorder_any (blindL a b) v W hI hc).mono ?_
    rintro e w' ⟨⟨r, v', hr, he, hI'⟩ | ⟨hr, -⟩, hb⟩
    · rw [hd, hk] at hr
      obtain rfl := Option.some.inj hr
      exact ⟨v', he, hI', hb⟩
    · rw [hd, hk] at hr; cases hr
  have HE : Hid (∀ W, Below w.heap.size w W → EtAt W) := fun W hW => hg.below hW hg.lt
  obtain ⟨i0, hi, hz0, hs0, hy0⟩ := info_parts infoOp
  have HI : Hid (Tryd.prog.info? 29 = some i0 ∧ i0.zero = some (.agg #[.int .i64 0, .int .i64 0, .int .i64 0]) ∧ i0.size = 3 ∧ i0.bytes = 24) := ⟨hi, hz0, hs0, hy0⟩
  have h1 : ¬ a < 1 := by omega
  have h2 : ¬ 6 < a := by omega
  have h3 : ¬ b < 1 := by omega
  have h4 : ¬ 6 < b := by omega
  have h5 : (a == b) = false := by simpa using hne
  clear hc hd hs hlk hi hz0 hs0 hy0 hg hne ha hb
  go_enter Tryd.func3, Tryd.ntmps3
  go_upto_region 6 with (first | (at_builtin; refine wpList_append_own _ rfl (.tmp 37) (.tmp 50) 27 rfl w.heap.size 29 i0 (.agg #[.int .i64 0, .int .i64 0, .int .i64 0]) 3 24 Tryd.underlying27 HI.out.1 HI.out.2.1 HI.out.2.2.1 HI.out.2.2.2 rfl (by decide) (.slice none 0 0) 0 [] rfl (World.ownsRow_nil _ _ _ _) ⟨w.heap.size, 0, none⟩ 6 6 (flat (blind6 a b)) rfl rfl (flat_new w (blind6 a b) _ rfl) (flat_one _) (by unfold maxLen; omega) (by omega) (by simp) ?_; intro v1 w1 hown1 hgr1 hnil1) | fail)
  have HB1 : Hid (Below w.heap.size w w1) := ((Below.refl _ w).alloc (Nat.le_refl _) _).grown hgr1 (by simp) (fun q hq => by cases hq)
  have HOWN1 : Hid (w1.ownsRow w.heap.size 29 3 v1 6 (flat (blind6 a b))) := by
    show w1.ownsRow w.heap.size 29 3 v1 6 (flat (blind6 a b))
    rw [Nat.zero_add, List.nil_append] at hown1
    exact hown1
  have hs1 := HB1.out.size
  clear hown1 hgr1 hnil1
  go_wp2_with (at_builtin; refine wpList_append_own _ rfl (.tmp 52) (.tmp 56) 27 rfl w.heap.size 29 i0 (.agg #[.int .i64 0, .int .i64 0, .int .i64 0]) 3 24 Tryd.underlying27 HI.out.1 HI.out.2.1 HI.out.2.2.1 HI.out.2.2.2 rfl (by decide) v1 6 (flat (blind6 a b)) rfl (HOWN1.out.alloc _) ⟨w1.heap.size, 0, none⟩ 3 3 (flat blind3) rfl rfl (flat_new w1 blind3 _ rfl) (flat_one _) (by unfold maxLen; omega) (by omega) (by simp; omega) ?_; intro v2 w2 hown2 hgr2 hnil2)
  have HB2 : Hid (Below w.heap.size w w2) := (HB1.out.alloc hs1 _).grown hgr2 (by simp; omega) (fun q hq => (HOWN1.out.lt q hq).1)
  have HI2 : Hid (∀ W, Below w2.heap.size w2 W → IsOps W v2 (blindL a b)) := fun W hW => by
    have h0 : IsOps w2 v2 (blindL a b) := isOps_own (n := 9) (base := w.heap.size) (e := 29) (by
      unfold blindL
      rw [flat_append]
      exact hown2) rfl
    exact h0.below hW (Nat.le_refl _)
  clear hown2 hgr2 hnil2 HOWN1 HB1 hs1
  refine (HS.out _ _ (HI2.out _ (Below.refl _ _))).mono ?_
  rintro e w3 ⟨rfl, hb3⟩
  have HB3 : Hid (Below w.heap.size w w3) := HB2.out.trans (hb3.mono HB2.out.size)
  have HI3 : Hid (IsOps w3 v2 (blindL a b)) := HI2.out _ hb3
  clear hb3 HI2 HB2
  go_wp2_with fail
  refine (HV.out _ _ HI3.out).mono ?_
  rintro e w4 ⟨v4, rfl, hI4, hb4⟩
  have HB4 : Hid (Below w.heap.size w w4) := HB3.out.trans (hb4.mono HB3.out.size)
  obtain ⟨ad, b0, off, cap, rfl, had, -, hbb, hcc⟩ := hI4
  obtain rfl := had (by simp)
  have hb0 : b0 < w4.heap.size := by
    rcases hbb with h | h
    · exact h
    · cases h
  have HCC : Hid (w4.cell? ⟨b0, off + 0, none⟩ = some (.int .i64 1) ∧ w4.cell? ⟨b0, off + 1, none⟩ = some (.int .i64 2) ∧ w4.cell? ⟨b0, off + 2, none⟩ = some (.int .i64 3)) := ⟨hcc 0 (by simp), hcc 1 (by simp), hcc 2 (by simp)⟩
  clear hb4 HB3 HI3 hcc hbb had
  go_wp2_with fail
  refine (error_hit 8 8 _ (HE.out _ HB4.out)).mono ?_
  rintro e w5 ⟨rfl, hb5⟩
  have c0 : w5.cell? ⟨b0, off, none⟩ = some (.int .i64 1) := (hb5.cell (p := ⟨b0, off, none⟩) hb0).trans HCC.out.1
  have c1 : w5.cell? ⟨b0, off + 1, none⟩ = some (.int .i64 2) := (hb5.cell (p := ⟨b0, off + 1, none⟩) hb0).trans HCC.out.2.1
  have c2 : w5.cell? ⟨b0, off + 2, none⟩ = some (.int .i64 3) := (hb5.cell (p := ⟨b0, off + 2, none⟩) hb0).trans HCC.out.2.2
  have HB5 : Hid (Below w.heap.size w w5) := HB4.out.trans (hb5.mono HB4.out.size)
  clear hb5 HCC HB4
  go_wp2_with fail
  go_ret
  exact ⟨rfl, HB5.out⟩
end Go.Proofs.YtjaeaanpbdmfgacDoor
