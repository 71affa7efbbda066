/-
  PROVED HERE: lanelaw4.OddsReaders returns true, whatever the list of ops (of a size that a machine can hold) and the place; old memory stays as it was.
  Conditions: errors.errorType holds the handle of the type error (the row lists it).
-/
import Derived.Test.YtjaeaanpbdmfgaaDoorOddPairs
import Derived.Test.YtjaeaanpbdmfgaaDoorOddSwap
import Derived.Test.YtjaeaanpbdmfgaaDoorTold
namespace Go.Proofs.YtjaeaanpbdmfgaaDoor
open Go.RowKit

theorem two_at (w : World) : OpsAt (w.alloc (.cells #[.int .i64 1, .int .i64 1, .int .i64 1, .int .i64 2, .int .i64 2, .int .i64 1] 50)) w.heap.size 0 [(1, 1, 1), (2, 2, 1)] := by
  intro i hi
  match i, hi with
  | 0, _ => simp
  | 1, _ => simp
theorem pairs_fact (w : World) (b : Nat) (hb : b = w.heap.size) :
    Calls Tryd.prog 28 #[.slice (some ⟨b, 0, none⟩) 2 2] (w.alloc (.cells #[.int .i64 1, .int .i64 1, .int .i64 1, .int .i64 2, .int .i64 2, .int .i64 1] 50)) fun e w' => ∃ ad c, e = .returned (.tuple #[.slice ad 1 c, .nilIface]) ∧ Below w.heap.size w w' := by
  subst hb
  refine (pairs_ok [(1, 1, 1), (2, 2, 1)] (.slice (some ⟨w.heap.size, 0, none⟩) 2 2) _ ⟨some ⟨w.heap.size, 0, none⟩, w.heap.size, 0, 2, rfl, fun _ => rfl, fun h => (by cases h), .inl (by simp), two_at w⟩ (by rw [fact_right])).mono ?_
  rintro e w' ⟨v', rfl, hE, hb'⟩
  rw [fact_pairs] at hE
  obtain ⟨ad, b, off, cap, rfl, _⟩ := hE
  exact ⟨ad, cap, rfl, ((Below.refl _ w).alloc (Nat.le_refl _) _).trans (hb'.mono (by simp))⟩

def readB (o : Op3) : Bool := o.2.1 != 2

set_option maxHeartbeats 8000000 in
set_option maxRecDepth 100000 in
theorem readers_walk (h : List Op3) (v : Value) (i : Int) (w : World) (hI : IsOps w v h) (hlen : h.length * 24 ≤ 140737488351232) (hg : EtAt w) :
    Calls Tryd.prog 7 #[v, .int .i64 i] w fun e w' => e = .returned (.bool true) ∧ Below w.heap.size w w' := by
  obtain ⟨ad, b, off, cap, rfl, ha, _, hbB, hops⟩ := hI
  have HO : Hid (∀ W, Below w.heap.size w W → ∀ k, k < h.length → ad = some ⟨b, off, none⟩ ∧ W.cell? ⟨b, off + k * 3, none⟩ = some (.int .i64 (opAt h k).1) ∧ W.cell? ⟨b, off + k * 3 + 1, none⟩ = some (.int .i64 (opAt h k).2.1) ∧ W.cell? ⟨b, off + k * 3 + 2, none⟩ = some (.int .i64 (opAt h k).2.2)) := fun W hW k hk => ⟨ha (by omega), (hops.below hW hbB) k hk⟩
  clear ha hbB hops
  obtain ⟨i0, hi, hz0, hs0, hy0⟩ := info_parts infoOp
  have HI : Hid (Tryd.prog.info? 50 = some i0 ∧ i0.zero = some (.agg #[.int .i64 0, .int .i64 0, .int .i64 0]) ∧ i0.size = 3 ∧ i0.bytes = 24) := ⟨hi, hz0, hs0, hy0⟩
  clear hi hz0 hs0 hy0
  have HET : Hid (EtAt w) := hg
  clear hg
  go_enter Tryd.func7, Tryd.ntmps7
  go_wp2_with fail
  refine (pairs_fact _ _ (by simp)).mono ?_
  rintro e w1 ⟨ad1, c1, rfl, hb1⟩
  go_wp2_with fail
  go_loopw [7, 8] (fun v7 v8 wr => ∃ k : Nat, k ≤ h.length ∧ v8 = .int .i64 k ∧ wr.ownsRow w.heap.size 50 3 v7 ((h.take k).filter readB).length (flat ((h.take k).filter readB)) ∧ Below w.heap.size w wr) (fun _ v8 _ => h.length - (intOf v8).toNat)
  case atStart => exact ⟨0, Nat.zero_le _, rfl, World.ownsRow_nil _ _ _ _, hb1⟩
  case round =>
    clear hb1
    obtain ⟨k, hk, rfl, hown, hbel⟩ := hrel
    have hsz := hbel.size
    by_cases hlt : k < h.length
    · obtain ⟨rfl, c0, c1, c2⟩ := HO.out wr hbel k hlt
      obtain ⟨⟨t, a, x⟩, ho⟩ : ∃ o : Op3, opAt h k = o := ⟨_, rfl⟩
      rw [ho] at c0 c1 c2
      have HT : Hid (h.take (k + 1) = h.take k ++ [(t, a, x)]) := by
        show h.take (k + 1) = h.take k ++ [(t, a, x)]
        rw [List.take_succ_eq_append_getElem hlt, ← ho]; simp [opAt, List.getD, List.getElem?_eq_getElem hlt]
      have hkl := take_len readB h k
      clear ho HO
      simp only at c0 c1 c2
      obtain ⟨n, hn⟩ : ∃ n, ((h.take k).filter readB).length = n := ⟨_, rfl⟩
      have HN : Hid (((h.take k).filter readB).length = n) := hn
      rw [hn] at hown hkl
      have HOWN : Hid (wr.ownsRow w.heap.size 50 3 u7 n (flat ((h.take k).filter readB))) := hown
      clear hn hown
      cases hq : readB (t, a, x) with
      | false =>
        have HQ : Hid (readB (t, a, x) = false) := hq
        have hq' : (a != 2) = false := hq
        clear hq
        go_wp2_with fail
        go_roundw
        case rel => exact ⟨k + 1, by omega, by go_num, by rw [filter_snoc _ h k _ HT.out, HQ.out]; simpa [HN.out] using HOWN.out, hbel⟩
        case measure => simp [intOf]; omega
      | true =>
        have HQ : Hid (readB (t, a, x) = true) := hq
        have hq' : (a != 2) = true := hq
        clear hq
        go_wp2_with (at_builtin; refine wpList_append_own _ rfl (.tmp 40) (.tmp 45) 22 rfl w.heap.size 50 i0 (.agg #[.int .i64 0, .int .i64 0, .int .i64 0]) 3 24 Tryd.underlying22 HI.out.1 HI.out.2.1 HI.out.2.2.1 HI.out.2.2.2 rfl (by decide) u7 n (flat ((h.take k).filter readB)) rfl (HOWN.out.alloc _) ⟨wr.heap.size, 0, none⟩ 1 1 (flat [(t, a, x)]) rfl rfl (one_at wr t a x) (flat_one _) (by unfold maxLen; omega) (by omega) (by simp; omega) ?_; intro v1 w1 hown1 hgr1 hnil1)
        have hB1 := (hbel.alloc hsz _).grown hgr1 (by simp; omega) (fun m hm => (HOWN.out.lt m hm).1)
        go_roundw
        case rel => exact ⟨k + 1, by omega, by go_num, by rw [filter_snoc _ h k _ HT.out, HQ.out]; simpa [HN.out, flat_append] using hown1, hB1⟩
        case measure => simp [intOf]; omega
    · have hIl : IsOps wr u7 ((h.take k).filter readB) := isOps_own hown rfl
      have hrd : ∀ o ∈ (h.take k).filter readB, o.2.1 ≠ 2 := fun o ho => by
        have := (List.mem_filter.1 ho).2
        simpa [readB] using this
      clear hown HO HI
      generalize (h.take k).filter readB = l at hIl hrd
      by_cases hc : (chk l).2 = 0
      · go_wp2_with fail
        refine (pairs_ok l _ _ hIl hc).mono ?_
        rintro e w2 ⟨v2, rfl, hE2, hb2⟩
        rw [pairs_reads hrd] at hE2
        obtain ⟨ad2, b2, off2, cap2, rfl, _⟩ := hE2
        have hI2 := hIl.below hb2 (Nat.le_refl _)
        have hb02 := hbel.trans (hb2.mono hsz)
        clear hb2 hIl hbel
        by_cases hr : i < 0 ∨ (l.length : Int) - 1 ≤ i
        · go_wp2_with fail
          refine (swap_range l _ i _ hI2 hc hr).mono ?_
          rintro e w3 ⟨rfl, hb3⟩
          have hb03 := hb02.trans (hb3.mono hb02.size)
          go_wp2_with fail
          refine (error_hit 1 7 _ (HET.out.below hb03 HET.out.lt)).mono ?_
          rintro e w4 ⟨rfl, hb4⟩
          go_wp2_with fail
          go_quiet (fail)
          go_wp2
          go_ret
          exact ⟨rfl, below_drewN (hb03.trans (hb4.mono hb03.size)) _⟩
        · obtain ⟨m, rfl⟩ : ∃ m : Nat, i = m := ⟨i.toNat, by omega⟩
          have hm : m + 1 < l.length := by omega
          have hodd : oddB (opAt l m) (opAt l (m + 1)) = false := odd_reads (hrd _ (opAt_mem (by omega))) (hrd _ (opAt_mem hm))
          by_cases htx : (opAt l m).1 = (opAt l (m + 1)).1
          · go_wp2_with fail
            refine (swap_clash l _ m _ hI2 hc hm (.inl htx)).mono ?_
            rintro e w3 ⟨rfl, hb3⟩
            have hb03 := hb02.trans (hb3.mono hb02.size)
            go_wp2_with fail
            refine (error_hit 7 7 _ (HET.out.below hb03 HET.out.lt)).mono ?_
            rintro e w4 ⟨rfl, hb4⟩
            have hI4 := (hI2.below hb3 (Nat.le_refl _)).below hb4 (Nat.le_refl _)
            have hb04 := hb03.trans (hb4.mono hb03.size)
            obtain ⟨ad3, b3, off3, cap3, rfl, ha3, _, _, hops3⟩ := hI4
            obtain rfl := ha3 (by omega)
            have d0 := (hops3 m (by omega)).1
            have d1 := (hops3 (m + 1) hm).1
            obtain ⟨t, ht⟩ : ∃ t, (opAt l m).1 = t := ⟨_, rfl⟩
            rw [show (l.getD m (0, 0, 0)).1 = t from ht] at d0
            rw [show (l.getD (m + 1) (0, 0, 0)).1 = t from htx.symm.trans ht] at d1
            have q1 : (m : Int) < (l.length : Int) - 1 := by omega
            have hl40 := chk_len hc
            clear hops3 ha3 htx ht hodd hI2 hb3 hb4 hb03 hb02 hr hrd
            go_wp2_with fail
            go_quiet (fail)
            go_wp2
            go_ret
            exact ⟨rfl, below_drewN hb04 _⟩
          · go_wp2_with fail
            refine (swap_ok l _ m _ hI2 hc hm htx hodd).mono ?_
            rintro e w3 ⟨v3, rfl, _, hb3⟩
            have hb03 := hb02.trans (hb3.mono hb02.size)
            go_wp2_with fail
            refine (error_nil 7 _).mono ?_
            rintro e w4 ⟨rfl, hw4⟩
            rw [hw4]; clear hw4
            go_wp2_with fail
            go_quiet (fail)
            go_wp2
            go_ret
            exact ⟨rfl, below_drewN hb03 _⟩
      · go_wp2_with fail
        refine (pairs_bad l _ _ hIl hc).mono ?_
        rintro e w2 ⟨rfl, hb2⟩
        go_wp2
        go_ret
        exact ⟨rfl, hbel.trans (hb2.mono hsz)⟩
end Go.Proofs.YtjaeaanpbdmfgaaDoor
