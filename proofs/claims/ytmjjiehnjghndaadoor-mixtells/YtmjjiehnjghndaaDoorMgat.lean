/-
  PROVED HERE: laneref2.AllMixes, of a list of at most 8 ops whose deals are deals: all orders of them, as mixL has them. Old memory stays as it was.
  Conditions: these.
  PROVED HERE: lanesame.Ops says of any two lists of ops whether they are one; old memory stays as it was.
  Conditions: the lists are not too long.
-/
import Derived.Test.YtmjjiehnjghndaaDoorMgas
import Derived.Deep.RegionHeld3
import Derived.Test.YtmjjiehnjghndaaDoorMgai
import Derived.Deep.QuietTactic
import Derived.BigQuiet
import Derived.WalkSmall
namespace Go.Proofs.YtmjjiehnjghndaaDoor
open Go.RowKit

theorem own_capM {w : World} {base e size n : Nat} {v : Value} {xs : List Value} (h : w.ownsRow base e size v n xs) : ∃ ad cap, v = .slice ad n cap ∧ n ≤ cap := by
  obtain ⟨_, ⟨hv, hz⟩ | ⟨g, cap, cur, hv, _, _, hn, _⟩⟩ := h
  · exact ⟨none, 0, by rw [hv, hz], by omega⟩
  · exact ⟨_, cap, hv, hn⟩
set_option maxHeartbeats 16000000 in
set_option maxRecDepth 100000 in
theorem allMix_any (l : List Op3) (v : Value) (w : World) (hI : IsOps w v l) (hl : l.length ≤ 8) (hd : ∀ o ∈ l, 1 ≤ o.1 ∧ o.1 ≤ 6) :
    Calls Tryd.prog 5 #[v] w fun e w' => ∃ v' us, e = .returned v' ∧ w'.ownsRow w.heap.size 22 1 v' us.length us ∧ ManyV w' us (mixL l) ∧ Below w.heap.size w w' := by
  have HIE : Hid (∀ W, Below w.heap.size w W → IsOps W v l) := fun W hW => hI.below hW (Nat.le_refl _)
  have HOF : Hid (∀ W t, Below w.heap.size w W → Calls Tryd.prog 13 #[v, .int .i64 t] W fun e w' => ∃ ad cap, e = .returned (.slice ad (ofL l t).length cap) ∧ (ofL l t).length ≤ cap ∧ IsOps w' (.slice ad (ofL l t).length cap) (ofL l t) ∧ Below W.heap.size W w') := fun W t hW => by
    refine (refOf_own l v t W (HIE.out W hW) (by omega)).mono ?_
    rintro e w' ⟨v', he, ho, hb⟩
    obtain ⟨ad, cap, rfl, hc⟩ := own_capM ho
    exact ⟨ad, cap, he, hc, isOps_own ho rfl, hb⟩
  have HMX : Hid (∀ (A : Nat → Option Addr) (N C : Nat → Nat) (W : World), Below w.heap.size w W → RowsM W A N C (rowsL l) → Calls Tryd.prog 14 #[.agg (arrV A N C), .slice none 0 0, .int .i64 l.length] W fun e w' => ∃ v' us, e = .returned v' ∧ w'.ownsRow W.heap.size 22 1 v' us.length us ∧ ManyV w' us (mixL l) ∧ Below W.heap.size W w') := fun A N C W hW hr => by
    refine (mixes_any l.length (rowsL l) [] A N C none 0 W (by simpa using hl) (tot_rows hd) hr (isOps_nil W) (fun b hb => by simp [Value.ownBlock] at hb)).mono ?_
    rintro e w' ⟨v', us, he, ho, hm, _, hb⟩
    refine ⟨v', us, he, ho, ?_, hb⟩
    have hmap : (mixG l.length (rowsL l)).map ([] ++ ·) = mixL l := by unfold mixL; simp
    rw [hmap] at hm
    exact hm
  obtain ⟨vad, vb, voff, vcap, rfl, -⟩ := hI
  clear hd
  go_enter Tryd.func5, Tryd.ntmps5
  go_upto_region 2 with (fail)
  obtain ⟨W, hW⟩ : ∃ W, W = w.alloc (.cells #[.slice none 0 0, .slice none 0 0, .slice none 0 0, .slice none 0 0, .slice none 0 0, .slice none 0 0, .slice none 0 0] 40) := ⟨_, rfl⟩
  rw [← hW]
  have HAR : Hid (ArrAt W w.heap.size (fun _ => none) (fun _ => 0) (fun _ => 0)) := by show ArrAt _ _ _ _ _; rw [hW]; exact arr_new w (fun _ => none) (fun _ => 0) (fun _ => 0)
  have HBW : Hid (Below w.heap.size w W) := by show Below _ _ _; rw [hW]; exact (Below.refl _ w).alloc (Nat.le_refl _) _
  obtain ⟨B, hB⟩ : ∃ B, B = w.heap.size := ⟨_, rfl⟩
  have HBB := hid_rm hB
  rw [← hB] at HAR ⊢
  clear hW hB
  go_wp2_with fail
  go_loopw [4] (fun v4 V => ∃ (j : Nat) (A : Nat → Option Addr) (N C : Nat → Nat), j ≤ 6 ∧ v4 = .int .i64 ((j : Int) + 1) ∧ ArrAt V B A N C ∧ (∀ d, 1 ≤ d → d ≤ j → N d = (ofL l d).length ∧ N d ≤ C d ∧ IsOps V (.slice (A d) (N d) (C d)) (ofL l d)) ∧ Below w.heap.size w V) (fun v4 _ => 7 - (intOf v4).toNat)
  case atStart => exact ⟨0, _, _, _, Nat.zero_le _, rfl, HAR.out, fun d h1 h2 => by omega, HBW.out⟩
  case round =>
    obtain ⟨j, A, N, C, hj, rfl, harr, hrows, hbel⟩ := hrel
    have HA := hid_rm harr
    have HR := hid_rm hrows
    have HBE := hid_rm hbel
    clear harr hrows hbel
    by_cases hj6 : j < 6
    · have hj' : (j : Int) + 1 ≤ 6 := by omega
      go_wp2_with fail
      refine (HOF.out wr _ HBE.out).mono ?_
      rintro e w1 ⟨ad, cap, rfl, hc1, hi1, hb1⟩
      have HA1 : Hid (ArrAt w1 B A N C) := HA.out.below hb1 HA.out.lt
      have ed := HA1.out.cell (show j + 1 < 7 by omega)
      have fd := HA1.out.thaw (j + 1)
      have HI1 := hid_rm hi1
      have HC1 := hid_rm hc1
      have HB1 := hid_rm hb1
      have HA2 := hid_rm (HA1.out.set (show j + 1 < 7 by omega) ad (ofL l ((j : Int) + 1)).length cap)
      have hBlow : w.heap.size ≤ B := by have := HBB.out; omega
      have HB2 : Hid (Below w.heap.size w (w1.setCell ⟨B, j + 1, none⟩ (.slice ad (ofL l ((j : Int) + 1)).length cap))) := (HBE.out.trans (hb1.mono HBE.out.size)).setCell hBlow _
      have HKP : Hid (∀ u m, IsOps w1 u m → IsOps (w1.setCell ⟨B, j + 1, none⟩ (.slice ad (ofL l ((j : Int) + 1)).length cap)) u m) := fun u m hm => by
        obtain ⟨ad', b, off, cap', hv, ha, hn, hbB, hops⟩ := hm
        refine ⟨ad', b, off, cap', hv, ha, hn, hbB.imp (fun h => by simpa using h) id, fun k hk => ?_⟩
        obtain ⟨c0, c1, c2⟩ := hops k hk
        have hne : b ≠ B := fun e => by
          subst e
          have h0 := (cell_of_row w1 b (off + k * 3) _ _ _ HA1.out).symm.trans c0
          unfold arrV at h0
          have hlt := (Array.getElem?_eq_some_iff.1 h0).1
          rcases (show off + k * 3 = 0 ∨ off + k * 3 = 1 ∨ off + k * 3 = 2 ∨ off + k * 3 = 3 ∨ off + k * 3 = 4 ∨ off + k * 3 = 5 ∨ off + k * 3 = 6 by simp at hlt; omega) with e | e | e | e | e | e | e <;> rw [e] at h0 <;> simp at h0
        exact ⟨(World.cell?_setCell_far w1 _ _ _ (fun e => hne e.symm)).trans c0, (World.cell?_setCell_far w1 _ _ _ (fun e => hne e.symm)).trans c1, (World.cell?_setCell_far w1 _ _ _ (fun e => hne e.symm)).trans c2⟩
      obtain ⟨m, hm⟩ : ∃ m, (ofL l ((j : Int) + 1)).length = m := ⟨_, rfl⟩
      have HM := hid_rm hm
      rw [hm] at HI1 HC1 HA2 HB2 HKP ⊢
      clear hm hc1 hi1 hb1
      go_wp2_with fail
      go_roundw
      case rel =>
        refine ⟨j + 1, _, _, _, by omega, by go_num, HA2.out, fun d d1 d2 => ?_, HB2.out⟩
        unfold updM
        by_cases hdj : d = j + 1
        · subst hdj
          simp only [if_true]
          have e0 : (((j + 1 : Nat) : Int)) = (j : Int) + 1 := by omega
          rw [e0]
          exact ⟨HM.out.symm, HC1.out, HKP.out _ _ HI1.out⟩
        · simp only [if_neg hdj]
          obtain ⟨k1, k2, k3⟩ := HR.out d d1 (by omega)
          exact ⟨k1, k2, HKP.out _ _ (k3.below HB1.out (Nat.le_refl _))⟩
      case measure => simp [intOf]; omega
    · obtain rfl : j = 6 := by omega
      have HCA := hid_rm (HMX.out A N C wr HBE.out (fun d d1 d6 => HR.out d d1 d6))
      have g0 := HA.out.cell (show 0 < 7 by decide)
      have g1 := HA.out.cell (show 1 < 7 by decide)
      have g2 := HA.out.cell (show 2 < 7 by decide)
      have g3 := HA.out.cell (show 3 < 7 by decide)
      have g4 := HA.out.cell (show 4 < 7 by decide)
      have g5 := HA.out.cell (show 5 < 7 by decide)
      have g6 := HA.out.cell (show 6 < 7 by decide)
      unfold arrV at HCA
      go_wp2_with fail
      refine HCA.out.mono ?_
      rintro e w1 ⟨v1, us, rfl, ho1, hm1, hb1⟩
      have HO1 := hid_rm ho1
      have HM1 := hid_rm hm1
      have HB1 := hid_rm hb1
      clear ho1 hm1 hb1
      go_wp2_with fail
      go_ret
      exact ⟨_, us, rfl, own_lowM HO1.out HBE.out.size, HM1.out, HBE.out.trans (HB1.out.mono HBE.out.size)⟩
end Go.Proofs.YtmjjiehnjghndaaDoor

namespace Go.Proofs.YtmjjiehnjghndaaDoor
open Go.RowKit

theorem hid_so {p : Prop} (h : p) : Hid p := h
theorem ops_beqS (t a i t2 a2 i2 : Int) : (((t, a, i) : Op3) == (t2, a2, i2)) = ((t == t2) && ((a == a2) && (i == i2))) := rfl
set_option maxHeartbeats 8000000 in
theorem same_ops2 (l m : List Op3) (v u : Value) (w : World) (hv : IsOps w v l) (hu : IsOps w u m) (hlen : l.length ≤ 140737488351) (hlen2 : m.length ≤ 140737488351) :
    Calls Tryd.prog 11 #[v, u] w fun e w' => e = .returned (.bool (decide (l = m))) ∧ Below w.heap.size w w' := by
  obtain ⟨ad, b, off, cap, rfl, ha, _, hbB, hops⟩ := hv
  obtain ⟨ad2, b2, off2, cap2, rfl, ha2, _, hbB2, hops2⟩ := hu
  by_cases hll : l.length = m.length
  · have hll' : ((l.length : Int) != (m.length : Int)) = false := by simp [hll]
    have H : Hid (∀ W, Below w.heap.size w W → ∀ k, k < l.length → ad = some ⟨b, off, none⟩ ∧ ad2 = some ⟨b2, off2, none⟩ ∧ (W.cell? ⟨b, off + k * 3, none⟩ = some (.int .i64 (l.getD k (0, 0, 0)).1) ∧ W.cell? ⟨b, off + k * 3 + 1, none⟩ = some (.int .i64 (l.getD k (0, 0, 0)).2.1) ∧ W.cell? ⟨b, off + k * 3 + 2, none⟩ = some (.int .i64 (l.getD k (0, 0, 0)).2.2)) ∧ (W.cell? ⟨b2, off2 + k * 3, none⟩ = some (.int .i64 (m.getD k (0, 0, 0)).1) ∧ W.cell? ⟨b2, off2 + k * 3 + 1, none⟩ = some (.int .i64 (m.getD k (0, 0, 0)).2.1) ∧ W.cell? ⟨b2, off2 + k * 3 + 2, none⟩ = some (.int .i64 (m.getD k (0, 0, 0)).2.2))) := fun W hW k hk => ⟨ha (by omega), ha2 (by omega), (hops.below hW hbB) k hk, (hops2.below hW hbB2) k (by omega)⟩
    clear ha ha2 hbB hbB2 hops hops2
    go_enter Tryd.func11, Tryd.ntmps11
    go_wp2
    go_loopw [5] (fun v5 wr => ∃ k : Nat, k ≤ l.length ∧ v5 = .int .i64 k ∧ l.take k = m.take k ∧ Below w.heap.size w wr) (fun v5 _ => l.length - (intOf v5).toNat)
    case atStart => exact ⟨0, Nat.zero_le _, rfl, by simp, Below.refl _ _⟩
    case round =>
      obtain ⟨k, hk, rfl, heq, hbel⟩ := hrel
      have HEQ := hid_so heq
      clear heq
      by_cases hlt : k < l.length
      · have hlt' : (k : Int) < (l.length : Int) := by omega
        have hlt2 : (k : Int) < (m.length : Int) := by omega
        obtain ⟨rfl, rfl, ⟨c0, c1, c2⟩, d0, d1, d2⟩ := H.out wr hbel k hlt
        obtain ⟨⟨t, a, i⟩, ho⟩ : ∃ o : Op3, l.getD k (0, 0, 0) = o := ⟨_, rfl⟩
        obtain ⟨⟨t2, a2, i2⟩, ho2⟩ : ∃ o : Op3, m.getD k (0, 0, 0) = o := ⟨_, rfl⟩
        rw [ho] at c0 c1 c2
        rw [ho2] at d0 d1 d2
        simp only at c0 c1 c2 d0 d1 d2
        have g1 : l[k] = (t, a, i) := by rw [← ho]; simp [List.getD, List.getElem?_eq_getElem hlt]
        have hm : k < m.length := by omega
        have g2 : m[k] = (t2, a2, i2) := by rw [← ho2]; simp [List.getD, List.getElem?_eq_getElem hm]
        have HB : Hid (∀ n, Below w.heap.size w (wr.drewN n)) := fun n => below_drewN hbel n
        by_cases he : ((t, a, i) : Op3) = (t2, a2, i2)
        · have HT : Hid (l.take (k + 1) = m.take (k + 1)) := by show _ = _; rw [List.take_succ_eq_append_getElem hlt, List.take_succ_eq_append_getElem hm, g1, g2, he, HEQ.out]
          simp only [Prod.mk.injEq] at he
          obtain ⟨rfl, rfl, rfl⟩ := he
          clear ho ho2 H g1 g2 hbel
          go_wp2
          go_quiet (fail)
          go_wp2
          go_roundw
          case rel => exact ⟨k + 1, by omega, by go_num, HT.out, HB.out _⟩
          case measure => simp [intOf]; omega
        · have HN : Hid (decide (l = m) = false) := by
            show decide _ = false
            refine decide_eq_false fun e => he ?_
            subst e
            rw [← g1, ← g2]
          have hq : (((t, a, i) : Op3) == (t2, a2, i2)) = false := by simpa using he
          rw [ops_beqS] at hq
          clear ho ho2 H g1 g2 hbel he
          cases h1 : (t == t2) with
          | false =>
            clear hq
            go_wp2
            go_quiet (fail)
            go_wp2
            go_ret
            exact ⟨ret_bool HN.out.symm, HB.out _⟩
          | true =>
            cases h2 : (a == a2) with
            | false =>
              clear hq
              go_wp2
              go_quiet (fail)
              go_wp2
              go_ret
              exact ⟨ret_bool HN.out.symm, HB.out _⟩
            | true =>
              have h3 : (i == i2) = false := by rw [h1, h2] at hq; simpa using hq
              clear hq
              go_wp2
              go_quiet (fail)
              go_wp2
              go_ret
              exact ⟨ret_bool HN.out.symm, HB.out _⟩
      · have HE : Hid (decide (l = m) = true) := by
          have h0 := HEQ.out
          rw [List.take_of_length_le (by omega), List.take_of_length_le (by omega)] at h0
          exact decide_eq_true h0
        go_wp2
        go_ret
        exact ⟨ret_bool HE.out.symm, hbel⟩
  · have hll' : ((l.length : Int) != (m.length : Int)) = true := by simp; omega
    have hN : decide (l = m) = false := decide_eq_false fun e => hll (by rw [e])
    rw [hN]
    go_enter Tryd.func11, Tryd.ntmps11
    go_wp2
    go_ret
    exact ⟨rfl, Below.refl _ _⟩
end Go.Proofs.YtmjjiehnjghndaaDoor
