/-
  PROVED HERE: lanelaw1.FacesTell returns true, whatever the list of ops; old memory stays as it was.
  Conditions: the slice is no longer than its capacity; errors.errorType holds the handle of the type error (the row lists it).
-/
import Derived.Test.YtjaeaanpbdmfgacDoorFacesOf2
import Derived.Test.YtjaeaanpbdmfgacDoorFacesFrom
import Derived.Test.YtjaeaanpbdmfgacDoorRefFaces
import Derived.Test.YtjaeaanpbdmfgacDoorRefHist
import Derived.Test.YtjaeaanpbdmfgacDoorSameSrc
import Derived.Test.YtjaeaanpbdmfgacDoorTold
namespace Go.Proofs.YtjaeaanpbdmfgacDoor
open Go.RowKit

set_option maxHeartbeats 8000000 in
set_option maxRecDepth 100000 in
theorem ftell_bad (l : List Op3) (ad : Option Addr) (cap : Nat) (w : World) (h : IsOps w (.slice ad l.length cap) l) (hc : (chk l).2 ≠ 0) (hg : EtAt w) :
    Calls Tryd.prog 4 #[.slice ad l.length cap] w fun e w' => e = .returned (.bool true) ∧ Below w.heap.size w w' := by
  have HIE : Hid (∀ W, Below w.heap.size w W → IsOps W (.slice ad l.length cap) l ∧ EtAt W) := fun W hW => ⟨h.below hW (Nat.le_refl _), hg.below hW hg.lt⟩
  obtain ⟨n, hn⟩ : ∃ n, (chk l).2 = n := ⟨_, rfl⟩
  have hn' : (n == 0) = false := by rw [← hn]; simpa using hc
  have HRR : Hid (Calls Tryd.prog 8 #[.slice ad l.length cap] w fun e w' => e = .returned (.int .i64 n) ∧ Below w.heap.size w w') := by
    have h1 := refRight_any l _ w h
    rw [hn] at h1
    exact h1
  have HOF : Hid (∀ W, Below w.heap.size w W → Calls Tryd.prog 11 #[.slice ad l.length cap] W fun e w' => e = .returned (.tuple #[.agg #[.bool false, .bool false, .bool false, .bool false], .iface 64 (.int .i64 n)]) ∧ Below W.heap.size W w') := fun W hW => by
    have h1 := fof_bad l _ W (HIE.out W hW).1 hc
    rw [hn] at h1
    exact h1
  have HFR : Hid (∀ W, Below w.heap.size w W → Calls Tryd.prog 12 #[.slice ad l.length cap] W fun e w' => e = .returned (.tuple #[.slice none 0 0, .iface 64 (.int .i64 n)]) ∧ Below W.heap.size W w') := fun W hW => by
    have h1 := ffrom_bad l _ W (HIE.out W hW).1 hc
    rw [hn] at h1
    exact h1
  have HER : Hid (∀ W, Below w.heap.size w W → Calls Tryd.prog 7 #[.iface 64 (.int .i64 n), .int .i64 n] W fun e w' => e = .returned (.bool true) ∧ Below W.heap.size W w') := fun W hW => (error_hit n n W (HIE.out W hW).2).mono fun _ _ ⟨he, hb⟩ => ⟨by rw [he]; simp, hb⟩
  clear h hc hg hn
  go_enter Tryd.func4, Tryd.ntmps4
  go_wp2_with fail
  refine HRR.out.mono ?_
  rintro e w1 ⟨rfl, hb1⟩
  have HB1 : Hid (Below w.heap.size w w1) := hb1
  clear hb1 HRR
  go_upto_region 6 with (fail)
  obtain ⟨W, hW⟩ : ∃ W, W = w1.alloc (.cells #[.bool false, .bool false, .bool false, .bool false] 34) := ⟨_, rfl⟩
  rw [← hW]
  obtain ⟨A, hA⟩ : ∃ A, A = w1.heap.size := ⟨_, rfl⟩
  have HF : Hid (FourAt W A false false false false) := by show FourAt W A _ _ _ _; rw [hW, hA]; exact four_box _ _ _ _ _
  have HB : Hid (Below w.heap.size w W) := by show Below _ _ _; rw [hW]; exact HB1.out.alloc HB1.out.size _
  rw [← hA]
  clear hW hA HB1
  go_wp2_with fail
  go_loopw [5, 6] (fun v5 v6 wr => v5 = .slice none 0 0 ∧ v6 = .int .i64 0 ∧ wr = W) (fun _ _ _ => 0)
  case atStart => exact ⟨rfl, rfl, rfl⟩
  case round =>
    obtain ⟨rfl, rfl, rfl⟩ := hrel
    have HGO : Hid (∀ w2, Below wr.heap.size wr w2 → FourAt w2 A false false false false ∧ Below w.heap.size w w2) := fun w2 hb2 => ⟨HF.out.below hb2 HF.out.lt, HB.out.trans (hb2.mono HB.out.size)⟩
    by_cases h0 : 0 < l.length
    · have h0' : (0 : Int) < (l.length : Int) := by omega
      go_wp2_with fail
      refine (HOF.out wr HB.out).mono ?_
      rintro e w2 ⟨rfl, hb2⟩
      obtain ⟨hf2, hB2⟩ := HGO.out w2 hb2
      obtain ⟨z0, z1, z2, z3⟩ := hf2.cells
      have hA2 := hf2.lt
      have HB2 : Hid (Below w.heap.size w w2) := hB2
      clear hb2 hf2 hB2
      go_wp2_with fail
      refine (HER.out _ (HB2.out.alloc HB2.out.size _)).mono ?_
      rintro e w3 ⟨rfl, hb3⟩
      have f0 : w3.cell? ⟨w2.heap.size, 0, none⟩ = some (.bool false) := (hb3.cell (p := ⟨w2.heap.size, 0, none⟩) (by simp)).trans (by simp)
      have f1 : w3.cell? ⟨w2.heap.size, 1, none⟩ = some (.bool false) := (hb3.cell (p := ⟨w2.heap.size, 1, none⟩) (by simp)).trans (by simp)
      have f2 : w3.cell? ⟨w2.heap.size, 2, none⟩ = some (.bool false) := (hb3.cell (p := ⟨w2.heap.size, 2, none⟩) (by simp)).trans (by simp)
      have f3 : w3.cell? ⟨w2.heap.size, 3, none⟩ = some (.bool false) := (hb3.cell (p := ⟨w2.heap.size, 3, none⟩) (by simp)).trans (by simp)
      have q0 : w3.cell? ⟨A, 0, none⟩ = some (.bool false) := (hb3.cell (p := ⟨A, 0, none⟩) (by simp; omega)).trans (cell_older _ z0)
      have q1 : w3.cell? ⟨A, 1, none⟩ = some (.bool false) := (hb3.cell (p := ⟨A, 1, none⟩) (by simp; omega)).trans (cell_older _ z1)
      have q2 : w3.cell? ⟨A, 2, none⟩ = some (.bool false) := (hb3.cell (p := ⟨A, 2, none⟩) (by simp; omega)).trans (cell_older _ z2)
      have q3 : w3.cell? ⟨A, 3, none⟩ = some (.bool false) := (hb3.cell (p := ⟨A, 3, none⟩) (by simp; omega)).trans (cell_older _ z3)
      have HB3 : Hid (Below w.heap.size w w3) := (HB2.out.alloc HB2.out.size _).trans (hb3.mono (by have := HB2.out.size; simp; omega))
      obtain ⟨G, hG⟩ : ∃ G, w2.heap.size = G := ⟨_, rfl⟩
      rw [hG] at f0 f1 f2 f3 ⊢
      clear hb3 hG z0 z1 z2 z3 hA2
      go_wp2_with fail
      refine (HFR.out w3 HB3.out).mono ?_
      rintro e w4 ⟨rfl, hb4⟩
      have HB4 : Hid (Below w.heap.size w w4) := HB3.out.trans (hb4.mono HB3.out.size)
      clear hb4 f0 f1 f2 f3 q0 q1 q2 q3
      go_wp2_with fail
      refine (HER.out w4 HB4.out).mono ?_
      rintro e w5 ⟨rfl, hb5⟩
      have HB5 : Hid (Below w.heap.size w w5) := HB4.out.trans (hb5.mono HB4.out.size)
      clear hb5
      go_wp2_with fail
      refine (same_src [] _ _ w5 (isEdges_nil _) (isEdges_nil _) (by simp)).mono ?_
      rintro e w6 ⟨rfl, hb6⟩
      have HB6 : Hid (Below w.heap.size w w6) := HB5.out.trans (hb6.mono HB5.out.size)
      clear hb6
      go_wp2_with fail
      go_ret
      exact ⟨rfl, HB6.out⟩
    · have h0' : ¬ (0 : Int) < (l.length : Int) := by omega
      go_wp2_with fail
      refine (HOF.out wr HB.out).mono ?_
      rintro e w2 ⟨rfl, hb2⟩
      obtain ⟨hf2, hB2⟩ := HGO.out w2 hb2
      obtain ⟨z0, z1, z2, z3⟩ := hf2.cells
      have hA2 := hf2.lt
      have HB2 : Hid (Below w.heap.size w w2) := hB2
      clear hb2 hf2 hB2
      go_wp2_with fail
      refine (HER.out _ (HB2.out.alloc HB2.out.size _)).mono ?_
      rintro e w3 ⟨rfl, hb3⟩
      have f0 : w3.cell? ⟨w2.heap.size, 0, none⟩ = some (.bool false) := (hb3.cell (p := ⟨w2.heap.size, 0, none⟩) (by simp)).trans (by simp)
      have f1 : w3.cell? ⟨w2.heap.size, 1, none⟩ = some (.bool false) := (hb3.cell (p := ⟨w2.heap.size, 1, none⟩) (by simp)).trans (by simp)
      have f2 : w3.cell? ⟨w2.heap.size, 2, none⟩ = some (.bool false) := (hb3.cell (p := ⟨w2.heap.size, 2, none⟩) (by simp)).trans (by simp)
      have f3 : w3.cell? ⟨w2.heap.size, 3, none⟩ = some (.bool false) := (hb3.cell (p := ⟨w2.heap.size, 3, none⟩) (by simp)).trans (by simp)
      have q0 : w3.cell? ⟨A, 0, none⟩ = some (.bool false) := (hb3.cell (p := ⟨A, 0, none⟩) (by simp; omega)).trans (cell_older _ z0)
      have q1 : w3.cell? ⟨A, 1, none⟩ = some (.bool false) := (hb3.cell (p := ⟨A, 1, none⟩) (by simp; omega)).trans (cell_older _ z1)
      have q2 : w3.cell? ⟨A, 2, none⟩ = some (.bool false) := (hb3.cell (p := ⟨A, 2, none⟩) (by simp; omega)).trans (cell_older _ z2)
      have q3 : w3.cell? ⟨A, 3, none⟩ = some (.bool false) := (hb3.cell (p := ⟨A, 3, none⟩) (by simp; omega)).trans (cell_older _ z3)
      have HB3 : Hid (Below w.heap.size w w3) := (HB2.out.alloc HB2.out.size _).trans (hb3.mono (by have := HB2.out.size; simp; omega))
      obtain ⟨G, hG⟩ : ∃ G, w2.heap.size = G := ⟨_, rfl⟩
      rw [hG] at f0 f1 f2 f3 ⊢
      clear hb3 hG z0 z1 z2 z3 hA2
      go_wp2_with fail
      refine (HFR.out w3 HB3.out).mono ?_
      rintro e w4 ⟨rfl, hb4⟩
      have HB4 : Hid (Below w.heap.size w w4) := HB3.out.trans (hb4.mono HB3.out.size)
      clear hb4 f0 f1 f2 f3 q0 q1 q2 q3
      go_wp2_with fail
      refine (HER.out w4 HB4.out).mono ?_
      rintro e w5 ⟨rfl, hb5⟩
      have HB5 : Hid (Below w.heap.size w w5) := HB4.out.trans (hb5.mono HB4.out.size)
      clear hb5
      go_wp2_with fail
      refine (same_src [] _ _ w5 (isEdges_nil _) (isEdges_nil _) (by simp)).mono ?_
      rintro e w6 ⟨rfl, hb6⟩
      have HB6 : Hid (Below w.heap.size w w6) := HB5.out.trans (hb6.mono HB5.out.size)
      clear hb6
      go_wp2_with fail
      go_ret
      exact ⟨rfl, HB6.out⟩
set_option maxHeartbeats 16000000 in
set_option maxRecDepth 100000 in
theorem ftell_ok (l : List Op3) (ad : Option Addr) (cap : Nat) (w : World) (h : IsOps w (.slice ad l.length cap) l) (hcap : l.length ≤ cap) (hc : (chk l).2 = 0) :
    Calls Tryd.prog 4 #[.slice ad l.length cap] w fun e w' => e = .returned (.bool true) ∧ Below w.heap.size w w' := by
  have hl := chk_len hc
  have HI : Hid (∀ W, Below w.heap.size w W → IsOps W (.slice ad l.length cap) l) := fun W hW => h.below hW (Nat.le_refl _)
  obtain ⟨r, hr⟩ : ∃ x, recB l = x := ⟨_, rfl⟩
  obtain ⟨c, hcc⟩ : ∃ x, cauB l = x := ⟨_, rfl⟩
  obtain ⟨s, hs⟩ : ∃ x, strB l = x := ⟨_, rfl⟩
  obtain ⟨g, hg⟩ : ∃ x, rigB l = x := ⟨_, rfl⟩
  have HRR : Hid (Calls Tryd.prog 8 #[.slice ad l.length cap] w fun e w' => e = .returned (.int .i64 0) ∧ Below w.heap.size w w') := by
    have h1 := refRight_any l _ w h
    rw [hc] at h1
    exact h1
  have HRF : Hid (∀ W, Below w.heap.size w W → Calls Tryd.prog 9 #[.slice ad l.length cap] W fun e w' => e = .returned (.agg #[.bool r, .bool c, .bool s, .bool g]) ∧ Below W.heap.size W w') := fun W hW => by
    have h1 := refFaces_any l _ W (HI.out W hW) hl
    rw [hr, hcc, hs, hg] at h1
    exact h1
  have HRO : Hid (∀ W, Below w.heap.size w W → ∀ i, i < l.length → Calls Tryd.prog 10 #[.slice ad l.length cap, .int .i64 i] W fun e w' => e = .returned (.int .i64 (fromI l i)) ∧ Below W.heap.size W w') := fun W hW i hi => from_any l _ i W (HI.out W hW) hl hi
  have HOF : Hid (∀ W, Below w.heap.size w W → Calls Tryd.prog 11 #[.slice ad l.length cap] W fun e w' => e = .returned (.tuple #[.agg #[.bool r, .bool c, .bool s, .bool g], .nilIface]) ∧ Below W.heap.size W w') := fun W hW => by
    have h1 := fof_ok l ad cap W (HI.out W hW) hcap hc
    rw [hr, hcc, hs, hg] at h1
    exact h1
  have HFR : Hid (∀ W, Below w.heap.size w W → Calls Tryd.prog 12 #[.slice ad l.length cap] W fun e w' => ∃ v', e = .returned (.tuple #[v', .nilIface]) ∧ IsEdges w' v' (srcTo l l.length) ∧ Below W.heap.size W w') := fun W hW => ffrom_ok l ad cap W (HI.out W hW) hcap hc
  have HER : Hid (∀ W, Calls Tryd.prog 7 #[.nilIface, .int .i64 0] W fun e w' => e = .returned (.bool true) ∧ w' = W) := fun W => error_nil 0 W
  obtain ⟨ad', b, off, cap', he, had, -, hbB, hops⟩ := h
  simp only [Value.slice.injEq, true_and] at he
  obtain ⟨rfl, rfl⟩ := he
  have HO : Hid (∀ W, Below w.heap.size w W → ∀ k, k < l.length → ad = some ⟨b, off, none⟩ ∧ W.cell? ⟨b, off + k * 3 + 1, none⟩ = some (.int .i64 (opAt l k).2.1)) := fun W hW k hk => ⟨had (by omega), ((hops.below hW hbB) k hk).2.1⟩
  obtain ⟨i0, hi, hz0, hs0, hy0⟩ := info_parts infoSrc
  have HIF : Hid (Tryd.prog.info? 39 = some i0 ∧ i0.zero = some (.agg #[.int .i64 0, .int .i64 0]) ∧ i0.size = 2 ∧ i0.bytes = 16) := ⟨hi, hz0, hs0, hy0⟩
  clear hc hr hcc hs hg had hbB hops hi hz0 hs0 hy0
  go_enter Tryd.func4, Tryd.ntmps4
  go_wp2_with fail
  refine HRR.out.mono ?_
  rintro e w1 ⟨rfl, hb1⟩
  have HB1 : Hid (Below w.heap.size w w1) := hb1
  clear hb1 HRR
  go_upto_region 5 with (fail)
  obtain ⟨W, hW⟩ : ∃ W, W = w1.alloc (.cells #[.bool false, .bool false, .bool false, .bool false] 34) := ⟨_, rfl⟩
  rw [← hW]
  obtain ⟨A, hA⟩ : ∃ A, A = w1.heap.size := ⟨_, rfl⟩
  have HF : Hid (FourAt W A false false false false) := by show FourAt W A _ _ _ _; rw [hW, hA]; exact four_box _ _ _ _ _
  have HB : Hid (Below w.heap.size w W) := by show Below _ _ _; rw [hW]; exact HB1.out.alloc HB1.out.size _
  have hwA : w.heap.size ≤ A := by have := HB1.out.size; omega
  rw [← hA]
  clear hW hA HB1
  go_wp2_with fail
  refine (HRF.out W HB.out).mono ?_
  rintro e w2 ⟨rfl, hb2⟩
  have HF2 : Hid (FourAt w2 A false false false false) := HF.out.below hb2 HF.out.lt
  obtain ⟨z0, z1, z2, z3⟩ := HF2.out.cells
  have y0 := HF2.out.thaw 0
  have y1 := HF2.out.thaw 1
  have y2 := HF2.out.thaw 2
  have y3 := HF2.out.thaw 3
  have HB2 : Hid (Below w.heap.size w w2) := HB.out.trans (hb2.mono HB.out.size)
  clear hb2 HRF HF HB
  go_upto_region 6 with (fail)
  obtain ⟨V, hV⟩ : ∃ V, V = (((w2.setCell ⟨A, 0, none⟩ (.bool r)).setCell ⟨A, 1, none⟩ (.bool c)).setCell ⟨A, 2, none⟩ (.bool s)).setCell ⟨A, 3, none⟩ (.bool g) := ⟨_, rfl⟩
  rw [← hV]
  have HFV : Hid (FourAt V A r c s g) := by show FourAt V A _ _ _ _; rw [hV]; exact HF2.out.put _ _ _ _
  have HBV : Hid (Below w.heap.size w V) := by
    show Below _ _ _
    rw [hV]
    exact (((HB2.out.setCell hwA _).setCell hwA _).setCell hwA _).setCell hwA _
  clear hV z0 z1 z2 z3 y0 y1 y2 y3 HF2 HB2
  go_wp2_with fail
  go_loopw [5, 6] (fun v5 v6 wr => ∃ k : Nat, k ≤ l.length ∧ v6 = .int .i64 k ∧ Below w.heap.size w wr ∧ FourAt wr A r c s g ∧ wr.ownsRow (A + 1) 39 2 v5 (srcTo l k).length (flatE (srcTo l k))) (fun _ v6 _ => l.length - (intOf v6).toNat)
  case atStart => exact ⟨0, Nat.zero_le _, rfl, HBV.out, HFV.out, World.ownsRow_nil _ _ _ _⟩
  case round =>
    clear HFV HBV
    obtain ⟨k, hk, rfl, hbel, hfour, hown⟩ := hrel
    have HBW : Hid (Below w.heap.size w wr) := hbel
    have HFW : Hid (FourAt wr A r c s g) := hfour
    have hA1 := hfour.lt
    obtain ⟨n1, hn1⟩ : ∃ n1, (srcTo l k).length = n1 := ⟨_, rfl⟩
    have hn1b : n1 ≤ 40 := by rw [← hn1]; have := srcTo_len l k; omega
    have HN1 : Hid ((srcTo l k).length = n1) := hn1
    rw [hn1] at hown
    have HOWN : Hid (wr.ownsRow (A + 1) 39 2 u5 n1 (flatE (srcTo l k))) := hown
    clear hfour hown hn1
    by_cases hlt : k < l.length
    · have hlt' : (k : Int) < (l.length : Int) := by omega
      obtain ⟨hadr, c1⟩ := HO.out wr hbel k hlt
      subst hadr
      obtain ⟨⟨t, a, x⟩, ho⟩ : ∃ o : Op3, opAt l k = o := ⟨_, rfl⟩
      rw [ho] at c1
      have HOA : Hid (opAt l k = (t, a, x)) := ho
      simp only at c1
      clear ho hbel
      by_cases ha : a = 1
      · subst ha
        have HRD : Hid (srcTo l (k + 1) = srcTo l k ++ [((k : Int), fromI l k)]) := by
          show srcTo l (k + 1) = _
          rw [srcTo, HOA.out, if_pos rfl]
        have HCL : Hid (Calls Tryd.prog 10 #[.slice (some ⟨b, off, none⟩) l.length cap, .int .i64 k] wr fun e w' => e = .returned (.int .i64 (fromI l k)) ∧ Below wr.heap.size wr w') := HRO.out wr HBW.out k hlt
        obtain ⟨f, hf⟩ : ∃ f, fromI l k = f := ⟨_, rfl⟩
        rw [hf] at HRD HCL
        clear hf
        go_wp2_with fail
        refine HCL.out.mono ?_
        rintro e w3 ⟨rfl, hb3⟩
        have HB3 : Hid (Below w.heap.size w w3) := HBW.out.trans (hb3.mono HBW.out.size)
        have HF3 : Hid (FourAt w3 A r c s g) := HFW.out.below hb3 hA1
        have HO3 : Hid (w3.ownsRow (A + 1) 39 2 u5 n1 (flatE (srcTo l k))) := own_below HOWN.out hb3 (Nat.le_refl _)
        have hA3 := HF3.out.lt
        clear hb3
        go_wp2_with (at_builtin; refine wpList_append_own _ rfl (.tmp 38) (.tmp 42) 35 rfl (A + 1) 39 i0 (.agg #[.int .i64 0, .int .i64 0]) 2 16 Tryd.underlying35 HIF.out.1 HIF.out.2.1 HIF.out.2.2.1 HIF.out.2.2.2 rfl (by decide) u5 n1 (flatE (srcTo l k)) rfl (HO3.out.alloc _) ⟨w3.heap.size, 0, none⟩ 1 1 (flatE [((k : Int), f)]) rfl rfl (one_src w3 k f) (flatE_one _) (by unfold maxLen; omega) (by omega) (by simp; omega) ?_; intro v4 w4 hown4 hgr4 hnil4)
        have HB4 : Hid (Below w.heap.size w w4) := (HB3.out.alloc HB3.out.size _).grown hgr4 (by have := HB3.out.size; simp; omega) (fun q hq => by have := (HO3.out.lt q hq).1; omega)
        have HF4 : Hid (FourAt w4 A r c s g) := (hgr4.block A (by simp; omega) (fun he => by have := (HO3.out.lt _ he.symm).1; omega)).trans (((Below.refl w3.heap.size w3).alloc (Nat.le_refl _) _).block A hA3 |>.trans HF3.out)
        have HO4 : Hid (w4.ownsRow (A + 1) 39 2 v4 (n1 + 1) (flatE (srcTo l k) ++ flatE [((k : Int), f)])) := hown4
        clear hown4 hgr4 hnil4
        go_wp2_with fail
        go_roundw
        case rel => exact ⟨k + 1, by omega, by go_num, HB4.out, HF4.out, by rw [HRD.out, flatE_append, List.length_append, HN1.out]; exact HO4.out⟩
        case measure => simp [intOf]; omega
      · have ha' : (a == 1) = false := by simpa using ha
        have HRD : Hid (srcTo l (k + 1) = srcTo l k) := by
          show srcTo l (k + 1) = srcTo l k
          rw [srcTo, HOA.out, if_neg ha]
        clear ha
        go_wp2_with fail
        go_roundw
        case rel => exact ⟨k + 1, by omega, by go_num, HBW.out, HFW.out, by rw [HRD.out, HN1.out]; exact HOWN.out⟩
        case measure => simp [intOf]; omega
    · have hlt' : ¬ (k : Int) < (l.length : Int) := by omega
      obtain rfl : k = l.length := by omega
      have HSV : Hid (IsEdges wr u5 (srcTo l l.length)) := by
        have h1 := HOWN.out
        rw [← HN1.out] at h1
        exact isEdges_own h1 rfl
      clear hbel HOWN
      go_wp2_with fail
      refine (HOF.out wr HBW.out).mono ?_
      rintro e w3 ⟨rfl, hb3⟩
      have HF3 : Hid (FourAt w3 A r c s g) := HFW.out.below hb3 hA1
      obtain ⟨q0, q1, q2, q3⟩ := HF3.out.cells
      have hA3 := HF3.out.lt
      have HB3 : Hid (Below w.heap.size w w3) := HBW.out.trans (hb3.mono HBW.out.size)
      have HS3 : Hid (IsEdges w3 u5 (srcTo l l.length)) := HSV.out.below hb3 (Nat.le_refl _)
      clear hb3
      go_wp2_with fail
      refine (HER.out _).mono ?_
      rintro e w4 ⟨rfl, hw4⟩
      rw [hw4]
      clear hw4
      go_wp2_with fail
      refine (HFR.out _ (HB3.out.alloc HB3.out.size _)).mono ?_
      rintro e w5 ⟨fv, rfl, hE5, hb5⟩
      have HE5 : Hid (IsEdges w5 fv (srcTo l l.length)) := hE5
      have HS5 : Hid (IsEdges w5 u5 (srcTo l l.length)) := (HS3.out.below ((Below.refl _ w3).alloc (Nat.le_refl _) _) (Nat.le_refl _)).below hb5 (Nat.le_refl _)
      have HB5 : Hid (Below w.heap.size w w5) := (HB3.out.alloc HB3.out.size _).trans (hb5.mono (by have := HB3.out.size; simp; omega))
      clear hE5 hb5
      go_wp2_with fail
      refine (HER.out _).mono ?_
      rintro e w6 ⟨rfl, hw6⟩
      rw [hw6]
      clear hw6
      go_wp2_with fail
      refine (same_src (srcTo l l.length) _ _ w5 HE5.out HS5.out (by have := srcTo_len l l.length; omega)).mono ?_
      rintro e w7 ⟨rfl, hb7⟩
      have HB7 : Hid (Below w.heap.size w w7) := HB5.out.trans (hb7.mono HB5.out.size)
      clear hb7
      go_wp2_with fail
      go_ret
      exact ⟨rfl, HB7.out⟩
end Go.Proofs.YtjaeaanpbdmfgacDoor
