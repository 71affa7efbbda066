/-
  PROVED HERE: laneref1.Deals gives the deals of ops, put in one by one; laneref1.Along gives the ops of deals along an order; lanesame.Ints tells whether two lists of numbers are one. Old memory stays as it was.
  Conditions: the lists are short; along an order each deal has an op.
-/
import Derived.Test.YtjaeaanpbdmfgabGreatDoorRefPut
import Derived.Test.YtjaeaanpbdmfgabGreatDoorMgbq
import Derived.Test.YtjaeaanpbdmfgabGreatDoorSerPlain
import Derived.Deep.QuietTactic
import Derived.BigQuiet
import Derived.WalkSmall
namespace Go.Proofs.YtjaeaanpbdmfgabGreatDoor
open Go.RowKit

set_option maxHeartbeats 2000000 in
theorem refDeals_any (l : List Op3) (v : Value) (w : World) (hI : IsOps w v l) (hl : l.length ≤ 40) :
    Calls Tryz.prog 6 #[v] w fun e w' => ∃ v', e = .returned v' ∧ IsInts w' v' (putsL (l.map (·.1))) ∧ Below w.heap.size w w' := by
  obtain ⟨ad, b, off, cap, rfl, ha, -, hbB, hops⟩ := hI
  have HE : Hid (∀ W, Below w.heap.size w W → ∀ k, k < l.length → ad = some ⟨b, off, none⟩ ∧ W.cell? ⟨b, off + k * 3, none⟩ = some (.int .i64 (l.getD k (0, 0, 0)).1)) := fun W hW k hk => ⟨ha (by omega), ((hops.below hW hbB) k hk).1⟩
  have HLN : Hid (∀ k, (putsL ((l.take k).map (·.1))).length ≤ 40) := fun k => by
    have h1 := putsL_len ((l.take k).map (·.1))
    have h2 := List.length_take_le' k l
    rw [List.length_map] at h1
    omega
  clear ha hbB hops
  go_enter Tryz.func6, Tryz.ntmps6
  go_wp2_with fail
  go_loopw [3, 4] (fun v3 v4 wr => ∃ k : Nat, k ≤ l.length ∧ v4 = .int .i64 k ∧ IsInts wr v3 (putsL ((l.take k).map (·.1))) ∧ Below w.heap.size w wr) (fun _ v4 _ => l.length - (intOf v4).toNat)
  case atStart => exact ⟨0, Nat.zero_le _, rfl, isInts_nil _, Below.refl _ _⟩
  case round =>
    obtain ⟨k, hk, rfl, hI, hbel⟩ := hrel
    have HI : Hid (IsInts wr u3 (putsL ((l.take k).map (·.1)))) := hI
    clear hI
    by_cases hlt : k < l.length
    · have hlt' : (k : Int) < (l.length : Int) := by omega
      obtain ⟨hadr, c0⟩ := HE.out wr hbel k hlt
      subst hadr
      obtain ⟨t, ht⟩ : ∃ t, (l.getD k (0, 0, 0)).1 = t := ⟨_, rfl⟩
      rw [ht] at c0
      have HT : Hid (putsL ((l.take (k + 1)).map (·.1)) = putL (putsL ((l.take k).map (·.1))) t) := by
        show putsL ((l.take (k + 1)).map (·.1)) = _
        rw [List.take_succ_eq_append_getElem hlt, List.map_append, ← putsL_snoc, ← ht]
        simp [List.getD, List.getElem?_eq_getElem hlt]
      clear ht
      go_wp2_with fail
      refine (put_any _ _ t _ HI.out (by have := HLN.out k; omega)).mono ?_
      rintro e w1 ⟨v1, rfl, hI1, hb1⟩
      have HI1 : Hid (IsInts w1 v1 (putsL ((l.take (k + 1)).map (·.1)))) := by rw [HT.out]; exact hI1
      clear hI1
      go_wp2_with fail
      go_roundw
      case rel => exact ⟨k + 1, by omega, by go_num, HI1.out, hbel.trans (hb1.mono hbel.size)⟩
      case measure => simp [intOf]; omega
    · have hlt' : ¬ (k : Int) < (l.length : Int) := by omega
      have HF : Hid (IsInts wr u3 (putsL (l.map (·.1)))) := by
        have h1 := HI.out
        rw [List.take_of_length_le (by omega)] at h1
        exact h1
      go_wp2_with fail
      go_ret
      exact ⟨_, rfl, HF.out, hbel⟩

set_option maxHeartbeats 4000000 in
theorem along_room (d : List Op3) (o : List Int) (v u : Value) (w : World) (hI : IsOps w v d) (hu : IsInts w u o) (hl40 : d.length ≤ 40) (ho6 : o.length ≤ 6) (hod : ∀ x ∈ o, 0 < (ofL d x).length) :
    Calls Tryz.prog 10 #[v, u] w fun e w' => ∃ v', e = .returned v' ∧ IsOps w' v' (alongL d o) ∧ Room v' ∧ Below w.heap.size w w' := by
  have HOD : Hid (∀ x ∈ o, 0 < (ofL d x).length) := hod
  have HI2 : Hid (∀ W, Below w.heap.size w W → IsOps W v d) := fun W hW => hI.below hW (Nat.le_refl _)
  have HAL : Hid (∀ k, (alongL d (o.take k)).length ≤ 240) := fun k => by
    have h1 := along_len d (o.take k)
    have h2 : (o.take k).length ≤ 6 := by have := List.length_take_le' k o; omega
    have h3 := Nat.mul_le_mul h2 hl40
    omega
  have HOL : Hid (∀ t, (ofL d t).length ≤ 40) := fun t => Nat.le_trans (List.length_filter_le ..) hl40
  obtain ⟨ad, b, off, cap, rfl, ha, -, hbB, hcl⟩ := hu
  have HU : Hid (∀ W, Below w.heap.size w W → ∀ k, k < o.length → ad = some ⟨b, off, none⟩ ∧ W.cell? ⟨b, off + k, none⟩ = some (.int .i64 (o.getD k 0))) := fun W hW k hk => by
    have hb : b < w.heap.size := by
      rcases hbB with h | h
      · exact h
      · subst h; simp at hk
    exact ⟨ha (by omega), (hW.cell (p := ⟨b, off + k, none⟩) hb).trans (hcl k hk)⟩
  obtain ⟨i0, hi, hz0, hs0, hy0⟩ := info_parts infoOp
  have HI : Hid (Tryz.prog.info? 37 = some i0 ∧ i0.zero = some (.agg #[.int .i64 0, .int .i64 0, .int .i64 0]) ∧ i0.size = 3 ∧ i0.bytes = 24) := ⟨hi, hz0, hs0, hy0⟩
  clear hi hz0 hs0 hy0 hod ha hbB hcl hI
  go_enter Tryz.func10, Tryz.ntmps10
  go_wp2_with fail
  go_loopw [5, 6] (fun v5 v6 wr => ∃ k : Nat, k ≤ o.length ∧ v6 = .int .i64 k ∧ wr.ownsRow w.heap.size 37 3 v5 (alongL d (o.take k)).length (flat (alongL d (o.take k))) ∧ Below w.heap.size w wr) (fun _ v6 _ => o.length - (intOf v6).toNat)
  case atStart => exact ⟨0, Nat.zero_le _, rfl, World.ownsRow_nil _ _ _ _, Below.refl _ _⟩
  case round =>
    obtain ⟨k, hk, rfl, hown, hbel⟩ := hrel
    have hsz := hbel.size
    by_cases hlt : k < o.length
    · have hlt' : (k : Int) < (o.length : Int) := by omega
      obtain ⟨hadr, c0⟩ := HU.out wr hbel k hlt
      subst hadr
      obtain ⟨t, ht⟩ : ∃ t, o.getD k 0 = t := ⟨_, rfl⟩
      rw [ht] at c0
      have htm : t ∈ o := by rw [← ht]; simp [List.getD, List.getElem?_eq_getElem hlt]
      have HT : Hid (alongL d (o.take (k + 1)) = alongL d (o.take k) ++ ofL d t) := by
        show alongL d (o.take (k + 1)) = alongL d (o.take k) ++ ofL d t
        rw [List.take_succ_eq_append_getElem hlt, ← along_snoc, ← ht]; simp [List.getD, List.getElem?_eq_getElem hlt]
      have HTT : Hid (0 < (ofL d t).length) := HOD.out t htm
      clear ht htm
      have HOWN : Hid (wr.ownsRow w.heap.size 37 3 u5 (alongL d (o.take k)).length (flat (alongL d (o.take k)))) := hown
      have ha1 := HAL.out k
      obtain ⟨al, hal⟩ : ∃ al, alongL d (o.take k) = al := ⟨_, rfl⟩
      rw [hal] at HT HOWN ha1
      obtain ⟨n1, hn1⟩ : ∃ n1, al.length = n1 := ⟨_, rfl⟩
      rw [hn1] at HOWN ha1
      have HN1 : Hid (al.length = n1) := hn1
      clear hown hal hn1
      go_wp2_with fail
      refine (refOf_any d v t _ (HI2.out wr hbel) (by omega)).mono ?_
      rintro e w3 ⟨v3, rfl, hI3, hb3⟩
      have HB3 : Hid (Below w.heap.size w w3) := hbel.trans (hb3.mono hsz)
      have HOWN3 : Hid (w3.ownsRow w.heap.size 37 3 u5 n1 (flat al)) := own_below HOWN.out hb3 (Nat.le_refl _)
      have hsz3 := HB3.out.size
      have ho1 := HOL.out t
      have hI3 : IsOps w3 v3 (ofL d t) := hI3
      obtain ⟨ol, hol⟩ : ∃ ol, ofL d t = ol := ⟨_, rfl⟩
      rw [hol] at hI3 HT HTT ho1
      obtain ⟨ad3, b3, off3, cap3, rfl, ha3, -, -, hops3⟩ := hI3
      have hpos := HTT.out
      obtain rfl := ha3 hpos
      have HS3 : Hid (∀ j u, (flat ol)[j]? = some u → w3.cell? ⟨b3, off3 + j, none⟩ = some u) := hops3.flat
      obtain ⟨n3, hn3⟩ : ∃ n3, ol.length = n3 := ⟨_, rfl⟩
      rw [hn3] at ho1 hpos ⊢
      have HN3 : Hid (ol.length = n3) := hn3
      clear hol ha3 hops3 hn3 hb3 HOWN
      go_wp2_with (at_builtin; refine wpList_append_own _ rfl (.tmp 20) (.tmp 21) 22 rfl w.heap.size 37 i0 (.agg #[.int .i64 0, .int .i64 0, .int .i64 0]) 3 24 Tryz.underlying22 HI.out.1 HI.out.2.1 HI.out.2.2.1 HI.out.2.2.2 rfl (by decide) u5 n1 (flat al) rfl HOWN3.out ⟨b3, off3, none⟩ n3 cap3 (flat ol) rfl (by rw [flat_length, HN3.out]) (fun j u hj => by rw [Addr.add_lit]; exact HS3.out j u hj) (flat_one _) (by unfold maxLen; omega) (by omega) (by omega) ?_; intro v4 w4 hown4 hgr4 hnil4)
      have hB4 := HB3.out.grown hgr4 hsz3 (fun m hm => (HOWN3.out.lt m hm).1)
      go_roundw
      case rel => exact ⟨k + 1, by omega, by go_num, by rw [HT.out, flat_append, List.length_append, HN1.out, HN3.out]; exact hown4, hB4⟩
      case measure => simp [intOf]; omega
    · have hlt' : ¬ (k : Int) < (o.length : Int) := by omega
      have HOP : Hid (IsOps wr u5 (alongL d o)) := by
        show IsOps wr u5 (alongL d o)
        have h1 := isOps_own hown rfl
        rw [List.take_of_length_le (by omega)] at h1
        exact h1
      have HRM : Hid (Room u5) := own_room hown
      clear hown
      go_wp2_with fail
      go_ret
      exact ⟨_, rfl, HOP.out, HRM.out, hbel⟩
theorem along_any (d : List Op3) (o : List Int) (v u : Value) (w : World) (hI : IsOps w v d) (hu : IsInts w u o) (hl40 : d.length ≤ 40) (ho6 : o.length ≤ 6) (hod : ∀ x ∈ o, 0 < (ofL d x).length) :
    Calls Tryz.prog 10 #[v, u] w fun e w' => ∃ v', e = .returned v' ∧ IsOps w' v' (alongL d o) ∧ Below w.heap.size w w' :=
  (along_room d o v u w hI hu hl40 ho6 hod).mono fun _ _ ⟨v', h1, h2, _, h3⟩ => ⟨v', h1, h2, h3⟩

theorem take_eq {l m : List Int} {k : Nat} (hl : k < l.length) (hm : k < m.length) (h : l.take k = m.take k) (hx : l.getD k 0 = m.getD k 0) : l.take (k + 1) = m.take (k + 1) := by
  rw [List.take_succ_eq_append_getElem hl, List.take_succ_eq_append_getElem hm, h]
  simp [List.getD, List.getElem?_eq_getElem hl, List.getElem?_eq_getElem hm] at hx
  rw [hx]
set_option maxHeartbeats 4000000 in
theorem ints_any (l m : List Int) (v u : Value) (w : World) (hv : IsInts w v l) (hu : IsInts w u m) (hl : l.length ≤ 1000) :
    Calls Tryz.prog 9 #[v, u] w fun e w' => e = .returned (.bool (l == m)) ∧ Below w.heap.size w w' := by
  obtain ⟨ad, b, off, cap, rfl, ha, _, hbB, hc⟩ := hv
  obtain ⟨ad2, b2, off2, cap2, rfl, ha2, _, hbB2, hc2⟩ := hu
  by_cases hlm : l.length = m.length
  · have H : Hid (∀ k, k < l.length → ad = some ⟨b, off, none⟩ ∧ ad2 = some ⟨b2, off2, none⟩ ∧ b < w.heap.size ∧ b2 < w.heap.size ∧ w.cell? ⟨b, off + k, none⟩ = some (.int .i64 (l.getD k 0)) ∧ w.cell? ⟨b2, off2 + k, none⟩ = some (.int .i64 (m.getD k 0))) := fun k hk => by
      refine ⟨ha (by omega), ha2 (by omega), ?_, ?_, hc k hk, hc2 k (by omega)⟩
      · rcases hbB with h | h
        · exact h
        · subst h; simp at hk
      · rcases hbB2 with h | h
        · exact h
        · rw [h] at hlm; simp only [List.length_nil] at hlm; omega
    have HLM : Hid (l.length = m.length) := hlm
    rw [← hlm]
    clear ha ha2 hbB hbB2 hc hc2 hlm
    go_enter Tryz.func9, Tryz.ntmps9
    go_wp2_with fail
    go_loopw [5] (fun v5 wr => ∃ k : Nat, k ≤ l.length ∧ v5 = .int .i64 k ∧ l.take k = m.take k ∧ Below w.heap.size w wr) (fun v5 _ => l.length - (intOf v5).toNat)
    case atStart => exact ⟨0, Nat.zero_le _, rfl, rfl, Below.refl _ _⟩
    case round =>
      obtain ⟨k, hk, rfl, htk, hbel⟩ := hrel
      have HTK : Hid (l.take k = m.take k) := htk
      clear htk
      by_cases hlt : k < l.length
      · have hlt' : (k : Int) < (l.length : Int) := by omega
        obtain ⟨e1, e2, h1, h2, c1, c2⟩ := H.out k hlt
        subst e1 e2
        rw [← hbel.cell (p := ⟨b, off + k, none⟩) h1] at c1
        rw [← hbel.cell (p := ⟨b2, off2 + k, none⟩) h2] at c2
        obtain ⟨x, hx⟩ : ∃ x, l.getD k 0 = x := ⟨_, rfl⟩
        obtain ⟨y, hy⟩ : ∃ y, m.getD k 0 = y := ⟨_, rfl⟩
        rw [hx] at c1
        rw [hy] at c2
        have HX : Hid (l.getD k 0 = x ∧ m.getD k 0 = y) := ⟨hx, hy⟩
        clear hx hy
        cases hq : (x != y) with
        | false =>
          have HN : Hid (l.take (k + 1) = m.take (k + 1)) := take_eq hlt (by have := HLM.out; omega) HTK.out (by rw [HX.out.1, HX.out.2]; simpa using hq)
          go_wp2_with fail
          go_quiet (fail)
          go_wp2
          go_roundw
          case rel => exact ⟨k + 1, by omega, by go_num, HN.out, below_drewN hbel _⟩
          case measure => simp [intOf]; omega
        | true =>
          have HN : Hid ((l == m) = false) := by
            show (l == m) = false
            rw [beq_eq_false_iff_ne]
            intro e
            have h3 := HX.out.1
            rw [e, HX.out.2] at h3
            rw [h3] at hq
            simp at hq
          go_wp2_with fail
          go_quiet (fail)
          go_wp2
          go_ret
          exact ⟨by rw [HN.out]; rfl, below_drewN hbel _⟩
      · have hlt' : ¬ (k : Int) < (l.length : Int) := by omega
        have HN : Hid ((l == m) = true) := by
          show (l == m) = true
          have h1 := HTK.out
          rw [List.take_of_length_le (by omega), List.take_of_length_le (by have := HLM.out; omega)] at h1
          simpa using h1
        go_wp2_with fail
        go_ret
        exact ⟨by rw [HN.out]; rfl, hbel⟩
  · have HN : Hid ((l == m) = false) := by
      show (l == m) = false
      rw [beq_eq_false_iff_ne]
      intro e
      exact hlm (by rw [e])
    have hne : ((l.length : Int) == (m.length : Int)) = false := by
      rw [beq_eq_false_iff_ne]; omega
    clear ha ha2 hbB hbB2 hc hc2 hlm
    go_enter Tryz.func9, Tryz.ntmps9
    go_wp2_with fail
    go_ret
    exact ⟨by rw [HN.out]; rfl, Below.refl _ _⟩
end Go.Proofs.YtjaeaanpbdmfgabGreatDoor
