/-
  PROVED HERE: laneref1.Views tells of two right lists whether they look the same: the same ops of each deal, the same who wrote last, and each Read reads what the same Write wrote. Old memory stays as it was.
  Conditions: the slices are no longer than their capacity.
-/
import Derived.Test.YtjaeaanpbdmfgabGreatDoorRefViewLast
import Derived.Test.YtjaeaanpbdmfgabGreatDoorRefDeals
import Derived.Test.YtjaeaanpbdmfgabGreatDoorRefPlace
import Derived.Test.YtjaeaanpbdmfgabGreatDoorMgbq
import Derived.Test.YtjaeaanpbdmfgabGreatDoorRegionMix
import Derived.Deep.Cut
namespace Go.Proofs.YtjaeaanpbdmfgabGreatDoor
open Go.RowKit

def sixL (l : List Op3) : List Int := (List.range 6).map fun (i : Nat) => (lastW l l.length ((i : Int) + 1)).1.1
theorem sixL_at (l : List Op3) {i : Nat} (h : i < 6) : (sixL l).getD i 0 = lastTx l ((i : Int) + 1) := by
  unfold sixL lastTx
  simp [List.getD, h]
theorem sixL_len (l : List Op3) : (sixL l).length = 6 := by simp [sixL]
theorem sight_not {h g : List Op3} (hV : Views h g ↔ sightB h g = true) (hn : ¬ Views h g) : sightB h g = false := by
  cases hb : sightB h g with
  | false => rfl
  | true => exact absurd (hV.2 hb) hn
theorem spot_deals {h g : List Op3} (hh : ∀ o ∈ h, isOpB o = true) (hd : dealsEq h g) {i : Nat} (hi : i < h.length) : ∃ k, k < g.length ∧ spot h g i = k ∧ placeI g (opAt h i).1 (nthAt h i) = k := by
  obtain ⟨k, k1, k2⟩ := named_of_deals (fun o ho => isOp_deal (hh o ho)) hd i hi
  have hp := place_name k1 k2
  refine ⟨k, k1, ?_, ?_⟩
  · unfold spot; rw [hp]; rfl
  · unfold placeI; rw [hp]
theorem ok_none {h g : List Op3} {i k : Nat} (hs : spot h g i = k) (h1 : wrTo h (opAt h i).2.2 i = none) (h2 : wrTo g (opAt g k).2.2 k = none) : readOk h g i = true := by
  unfold readOk; rw [hs, h1, h2]
theorem ok_left {h g : List Op3} {i k a : Nat} (hs : spot h g i = k) (h1 : wrTo h (opAt h i).2.2 i = some a) (h2 : wrTo g (opAt g k).2.2 k = none) : readOk h g i = false := by
  unfold readOk; rw [hs, h1, h2]
theorem ok_right {h g : List Op3} {i k b : Nat} (hs : spot h g i = k) (h1 : wrTo h (opAt h i).2.2 i = none) (h2 : wrTo g (opAt g k).2.2 k = some b) : readOk h g i = false := by
  unfold readOk; rw [hs, h1, h2]
theorem ok_both {h g : List Op3} {i k a b : Nat} (hs : spot h g i = k) (h1 : wrTo h (opAt h i).2.2 i = some a) (h2 : wrTo g (opAt g k).2.2 k = some b) : readOk h g i = ((opAt h a).1 == (opAt g b).1 && nthAt h a == nthAt g b) := by
  unfold readOk; rw [hs, h1, h2]
theorem wrI_none {l : List Op3} {x : Int} {k : Nat} (h : wrTo l x k = none) : wrI l x k = -1 := by unfold wrI; rw [h]
theorem wrI_some {l : List Op3} {x : Int} {k j : Nat} (h : wrTo l x k = some j) : wrI l x k = j := by unfold wrI; rw [h]
theorem ops_pre {w : World} {ad : Option Addr} {cap : Nat} {l : List Op3} (h : IsOps w (.slice ad l.length cap) l) : ∃ b off, (∀ W, Below w.heap.size w W → ∀ k, k < l.length → ad = some ⟨b, off, none⟩ ∧ b < w.heap.size ∧ W.cell? ⟨b, off + k * 3, none⟩ = some (.int .i64 (opAt l k).1) ∧ W.cell? ⟨b, off + k * 3 + 1, none⟩ = some (.int .i64 (opAt l k).2.1) ∧ W.cell? ⟨b, off + k * 3 + 2, none⟩ = some (.int .i64 (opAt l k).2.2)) ∧ (∀ W, Below w.heap.size w W → ∀ k, k ≤ l.length → 0 < l.length → IsOps W (.slice (some ⟨b, off, none⟩) k cap) (l.take k)) := by
  obtain ⟨ad', b, off, cap', he, ha, hn, hbB, hops⟩ := h
  simp only [Value.slice.injEq, true_and] at he
  obtain ⟨rfl, rfl⟩ := he
  refine ⟨b, off, fun W hW k hk => ⟨ha (by omega), ?_, (hops.below hW hbB) k hk⟩, fun W hW k hk hpos => ?_⟩
  · rcases hbB with h | h
    · exact h
    · subst h; simp at hk
  · have hlk : (l.take k).length = k := by rw [List.length_take, Nat.min_eq_left hk]
    have hb1 : b < w.heap.size := by
      rcases hbB with h1 | h1
      · exact h1
      · subst h1; simp at hpos
    refine ⟨some ⟨b, off, none⟩, b, off, cap, by rw [hlk], fun _ => rfl, fun h => (by cases h), .inl (Nat.lt_of_lt_of_le hb1 hW.size), fun i hi => ?_⟩
    have hik : i < k := by rw [hlk] at hi; exact hi
    have := (hops.below hW hbB) i (by omega)
    rw [show (l.take k).getD i (0, 0, 0) = l.getD i (0, 0, 0) by simp [List.getD, hik]]
    exact this
theorem wrTo_lt' {l : List Op3} {k j : Nat} {x : Int} (h : wrTo l x k = some j) : j < k := (wrTo_some h).1
theorem nth_le (l : List Op3) (i : Nat) : nthAt l i ≤ i := by
  unfold nthAt ofL
  exact Nat.le_trans (List.length_filter_le ..) (List.length_take_le ..)

set_option maxHeartbeats 16000000 in
set_option maxRecDepth 100000 in
theorem refViews_any (h g : List Op3) (v u : Value) (w : World) (hI : IsOps w v h) (hr : Room v) (hJ : IsOps w u g) (hr2 : Room u) (hc : (chk h).2 = 0) (hd : (chk g).2 = 0) :
    Calls Tryz.prog 24 #[v, u] w fun e w' => e = .returned (.bool (sightB h g)) ∧ Below w.heap.size w w' := by
  have hl := chk_len hc
  have hl2 := chk_len hd
  have HOP : Hid ((∀ o ∈ h, isOpB o = true) ∧ (∀ o ∈ g, isOpB o = true)) := ⟨chk_ops hc, chk_ops hd⟩
  have HV : Hid (Views h g ↔ sightB h g = true) := views_sight (chk_ops hc) (chk_ops hd)
  have HIJ : Hid (∀ W, Below w.heap.size w W → IsOps W v h ∧ IsOps W u g) := fun W hW => ⟨hI.below hW (Nat.le_refl _), hJ.below hW (Nat.le_refl _)⟩
  obtain ⟨ad, cap, hv⟩ : ∃ ad cap, v = .slice ad h.length cap := by obtain ⟨ad, b, off, cap, hv, -⟩ := hI; exact ⟨ad, cap, hv⟩
  obtain ⟨ad2, cap2, hu⟩ : ∃ ad cap, u = .slice ad g.length cap := by obtain ⟨ad, b, off, cap, hv, -⟩ := hJ; exact ⟨ad, cap, hv⟩
  subst hv hu
  have hcap : h.length ≤ cap := by
    obtain ⟨_, _, _, he, hle⟩ := hr
    simp only [Value.slice.injEq] at he
    omega
  have hcap2 : g.length ≤ cap2 := by
    obtain ⟨_, _, _, he, hle⟩ := hr2
    simp only [Value.slice.injEq] at he
    omega
  obtain ⟨b, off, hE1, hP1⟩ := ops_pre hI
  obtain ⟨b2, off2, hE2, hP2⟩ := ops_pre hJ
  have HE : Hid (∀ W, Below w.heap.size w W → ∀ k, k < h.length → ad = some ⟨b, off, none⟩ ∧ b < w.heap.size ∧ W.cell? ⟨b, off + k * 3, none⟩ = some (.int .i64 (opAt h k).1) ∧ W.cell? ⟨b, off + k * 3 + 1, none⟩ = some (.int .i64 (opAt h k).2.1) ∧ W.cell? ⟨b, off + k * 3 + 2, none⟩ = some (.int .i64 (opAt h k).2.2)) := hE1
  have HE2 : Hid (∀ W, Below w.heap.size w W → ∀ k, k < g.length → ad2 = some ⟨b2, off2, none⟩ ∧ b2 < w.heap.size ∧ W.cell? ⟨b2, off2 + k * 3, none⟩ = some (.int .i64 (opAt g k).1) ∧ W.cell? ⟨b2, off2 + k * 3 + 1, none⟩ = some (.int .i64 (opAt g k).2.1) ∧ W.cell? ⟨b2, off2 + k * 3 + 2, none⟩ = some (.int .i64 (opAt g k).2.2)) := hE2
  have HP1 : Hid (∀ W, Below w.heap.size w W → ∀ k, k ≤ h.length → 0 < h.length → IsOps W (.slice (some ⟨b, off, none⟩) k cap) (h.take k)) := hP1
  have HP2 : Hid (∀ W, Below w.heap.size w W → ∀ k, k ≤ g.length → 0 < g.length → IsOps W (.slice (some ⟨b2, off2, none⟩) k cap2) (g.take k)) := hP2
  clear hE1 hE2 hP1 hP2 hI hJ hr hr2 hc hd
  go_enter Tryz.func24, Tryz.ntmps24
  go_wp2_with fail
  refine (sameDeals_any h g _ _ _ (HIJ.out w (Below.refl _ _)).1 (HIJ.out w (Below.refl _ _)).2 hl hl2).mono ?_
  rintro e w1 ⟨rfl, hb1⟩
  cases heq : eqTo h g 6 with
  | false =>
    have HR : Hid (sightB h g = false) := sight_not HV.out fun hh => by rw [(eqTo_iff h g).2 hh.1] at heq; cases heq
    clear heq
    go_wp2
    go_ret
    exact ⟨by rw [HR.out]; rfl, hb1⟩
  | true =>
    have HD : Hid (dealsEq h g) := (eqTo_iff h g).1 heq
    clear heq
    go_wp2_with fail
    refine (refLast_any h _ _ (HIJ.out w1 hb1).1 hl HOP.out.1).mono ?_
    rintro e w2 ⟨va, rfl, hA2, hb2⟩
    have hb02 := hb1.trans (hb2.mono hb1.size)
    have HA2 : Hid (IsInts w2 va (sixL h)) := hA2
    clear hA2
    go_wp2_with fail
    refine (refLast_any g _ _ (HIJ.out w2 hb02).2 hl2 HOP.out.2).mono ?_
    rintro e w3 ⟨vb, rfl, hB3, hb3⟩
    have hB3' : IsInts w3 vb (sixL g) := hB3
    have hA3 := HA2.out.below hb3 (Nat.le_refl _)
    have HB3 : Hid (Below w.heap.size w w3) := hb02.trans (hb3.mono hb02.size)
    obtain ⟨aa, ba, oa, ca, hva, haa, -, hba, hca⟩ := hA3
    obtain ⟨ab, bb, ob, cb, hvb, hab, -, hbb, hcb⟩ := hB3'
    rw [sixL_len] at hva hvb haa hab
    obtain rfl := haa (by omega)
    obtain rfl := hab (by omega)
    subst hva hvb
    have hba' : ba < w3.heap.size := by
      rcases hba with h | h
      · exact h
      · have h9 := congrArg List.length h; rw [sixL_len] at h9; cases h9
    have hbb' : bb < w3.heap.size := by
      rcases hbb with h | h
      · exact h
      · have h9 := congrArg List.length h; rw [sixL_len] at h9; cases h9
    have H6 : Hid (∀ W, Below w3.heap.size w3 W → ∀ i, i < 6 → W.cell? ⟨ba, oa + i, none⟩ = some (.int .i64 (lastTx h ((i : Int) + 1))) ∧ W.cell? ⟨bb, ob + i, none⟩ = some (.int .i64 (lastTx g ((i : Int) + 1)))) := fun W hW i hi => by
      have h1 := hca i (by rw [sixL_len]; exact hi)
      have h2 := hcb i (by rw [sixL_len]; exact hi)
      rw [sixL_at _ hi] at h1 h2
      exact ⟨(hW.cell (p := ⟨ba, oa + i, none⟩) hba').trans h1, (hW.cell (p := ⟨bb, ob + i, none⟩) hbb').trans h2⟩
    clear hB3 hca hcb hba hbb hba' hbb' haa hab HA2 hb02 hb1 hb2 hb3
    go_wp2_with fail
    go_loopw [8] (fun v8 wr => ∃ i : Nat, i ≤ 6 ∧ v8 = .int .i64 i ∧ (∀ j : Nat, j < i → lastTx h ((j : Int) + 1) = lastTx g ((j : Int) + 1)) ∧ Below w3.heap.size w3 wr) (fun v8 _ => 6 - (intOf v8).toNat)
    case atStart => exact ⟨0, by omega, rfl, fun j hj => absurd hj (by omega), Below.refl _ _⟩
    case round =>
      obtain ⟨i, hi, rfl, hall, hbel⟩ := hrel
      have HALL : Hid (∀ j : Nat, j < i → lastTx h ((j : Int) + 1) = lastTx g ((j : Int) + 1)) := hall
      clear hall
      by_cases hlt : i < 6
      · have hlt' : (i : Int) < 6 := by omega
        obtain ⟨c0, c1⟩ := H6.out wr hbel i hlt
        obtain ⟨p, hp⟩ : ∃ p, lastTx h ((i : Int) + 1) = p := ⟨_, rfl⟩
        obtain ⟨q, hq⟩ : ∃ q, lastTx g ((i : Int) + 1) = q := ⟨_, rfl⟩
        rw [hp] at c0
        rw [hq] at c1
        have HPQ : Hid (lastTx h ((i : Int) + 1) = p ∧ lastTx g ((i : Int) + 1) = q) := ⟨hp, hq⟩
        clear hp hq
        cases hne : (p != q) with
        | false =>
          have HN : Hid (∀ j : Nat, j < i + 1 → lastTx h ((j : Int) + 1) = lastTx g ((j : Int) + 1)) := fun j hj => by
            rcases Nat.lt_or_ge j i with e | e
            · exact HALL.out j e
            · rw [show j = i by omega, HPQ.out.1, HPQ.out.2]; simpa using hne
          go_wp2_with fail
          go_quiet (fail)
          go_wp2
          go_roundw
          case rel => exact ⟨i + 1, by omega, by go_num, HN.out, below_drewN hbel _⟩
          case measure => simp [intOf]; omega
        | true =>
          have HR : Hid (sightB h g = false) := sight_not HV.out fun hh => by
            have h1 := hh.2.1 ((i : Int) + 1) (by omega) (by omega)
            rw [HPQ.out.1, HPQ.out.2] at h1
            rw [h1] at hne
            simp at hne
          go_wp2_with fail
          go_quiet (fail)
          go_wp2
          go_ret
          exact ⟨by rw [HR.out]; rfl, HB3.out.trans ((below_drewN hbel _).mono HB3.out.size)⟩
      · have hlt' : ¬ (i : Int) < 6 := by omega
        have HLS : Hid (∀ x : Int, 1 ≤ x → x ≤ 6 → lastTx h x = lastTx g x) := fun x h1 h6 => by
          have := HALL.out (x.toNat - 1) (by omega)
          rw [show ((x.toNat - 1 : Nat) : Int) + 1 = x by omega] at this
          exact this
        have hbW := HB3.out.trans (hbel.mono HB3.out.size)
        clear hbel HALL H6
        go_wp2_with fail
        go_loopw [9] (fun v9 wr => ∃ i : Nat, i ≤ h.length ∧ v9 = .int .i64 i ∧ (∀ j : Nat, j < i → (opAt h j).2.1 = 1 → readOk h g j = true) ∧ Below w.heap.size w wr) (fun v9 _ => h.length - (intOf v9).toNat)
        case atStart => exact ⟨0, Nat.zero_le _, rfl, fun j hj => absurd hj (by omega), hbW⟩
        case round =>
          clear hbW
          obtain ⟨i, hi, rfl, hall, hbel⟩ := hrel
          have HALL : Hid (∀ j : Nat, j < i → (opAt h j).2.1 = 1 → readOk h g j = true) := hall
          have hsz := hbel.size
          clear hall
          by_cases hlt : i < h.length
          · have hlt' : (i : Int) < (h.length : Int) := by omega
            obtain ⟨hadr, hbl, c0, c1, -⟩ := HE.out wr hbel i hlt
            subst hadr
            obtain ⟨⟨t, a, x⟩, ho⟩ : ∃ o : Op3, opAt h i = o := ⟨_, rfl⟩
            rw [ho] at c0 c1
            simp only at c0 c1
            have HO : Hid (opAt h i = (t, a, x)) := ho
            clear ho
            by_cases ha1 : a = 1
            · subst ha1
              obtain ⟨k, hk, hsp, hpl⟩ := spot_deals HOP.out.1 HD.out hlt
              obtain ⟨m, hm⟩ : ∃ m, nthAt h i = m := ⟨_, rfl⟩
              have hm40 : m ≤ 40 := by rw [← hm]; have := nth_le h i; omega
              have HM : Hid ((ofL (h.take i) t).length = m) := by rw [← hm]; show _ = nthAt h i; unfold nthAt; rw [HO.out]
              rw [hm, HO.out] at hpl
              have HSP : Hid (spot h g i = k) := hsp
              have hicap : i ≤ cap := by omega
              obtain ⟨B2, hC1, hC2⟩ : ∃ B2, B2 ≤ wr.heap.size ∧ wr.heap.size ≤ B2 := ⟨_, Nat.le_refl _, Nat.le_refl _⟩
              have hne : Nonempty (Later B2 wr) := ⟨⟨wr, Below.refl _ _⟩⟩
              have e0 : ∀ y : Later B2 wr, y.W.cell? ⟨b, off + i * 3, none⟩ = some (.int .i64 t) := fun y => (y.h.cell (p := ⟨b, off + i * 3, none⟩) (by simp; omega)).trans c0
              have HLW : Hid (∀ y : Later B2 wr, Below w.heap.size w y.W) := fun y => hbel.trans (y.h.mono (Nat.le_trans hsz hC2))
              have HPL : Hid (∀ y : Later B2 wr, Calls Tryz.prog 51 #[.slice ad2 g.length cap2, .int .i64 t, .int .i64 m] y.W fun e w' => e = .returned (.int .i64 k) ∧ ∃ z : Later B2 wr, w' = z.W) := fun y => hpl ▸ Later.at y hC1 ((place_any g (.slice ad2 g.length cap2) t m y.W (HIJ.out y.W (HLW.out y)).2 hl2 hm40).mono fun _ _ ⟨he, hw⟩ => ⟨he, by rw [hw]; exact Below.refl _ _⟩)
              clear hsp hpl hm
              go_upto_region 15 with (fail)
              clear c0 c1
              refine region_mix B2 18 (by kernel_rfl) rfl ?_
              refine mix_take 0 _ rfl (by kernel_rfl) (by kernel_rfl) (by kernel_rfl) (by kernel_rfl) (fun K hK => ?_)
              simp only [List.getElem_toArray, List.getElem_cons_zero]
              go_big_quiet_op
              refine hK _ ?_
              clear hK K
              refine mix_take 1 _ rfl (by kernel_rfl) (by kernel_rfl) (by kernel_rfl) (by kernel_rfl) (fun K hK => ?_)
              simp only [List.getElem_toArray, List.getElem_cons_zero, List.getElem_cons_succ]
              go_big_quiet_op
              refine hK _ ?_
              clear hK K
              refine mix_take 2 _ rfl (by kernel_rfl) (by kernel_rfl) (by kernel_rfl) (by kernel_rfl) (fun K hK => ?_)
              simp only [List.getElem_toArray, List.getElem_cons_zero, List.getElem_cons_succ]
              go_big_quiet_op
              refine hK _ ?_
              clear hK K
              refine mix_take 3 _ rfl (by kernel_rfl) (by kernel_rfl) (by kernel_rfl) (by kernel_rfl) (fun K hK => ?_)
              simp only [List.getElem_toArray, List.getElem_cons_zero, List.getElem_cons_succ]
              go_big_quiet_op
              refine hK _ ?_
              clear hK K
              refine mix_take 4 _ rfl (by kernel_rfl) (by kernel_rfl) (by kernel_rfl) (by kernel_rfl) (fun K hK => ?_)
              simp only [List.getElem_toArray, List.getElem_cons_zero, List.getElem_cons_succ]
              go_big_quiet_op
              refine hK _ ?_
              clear hK K
              refine mix_take 5 _ rfl (by kernel_rfl) (by kernel_rfl) (by kernel_rfl) (by kernel_rfl) (fun K hK => ?_)
              simp only [List.getElem_toArray, List.getElem_cons_zero, List.getElem_cons_succ]
              go_big_quiet_op
              refine hK _ ?_
              clear hK K
              refine mix_take 6 _ rfl (by kernel_rfl) (by kernel_rfl) (by kernel_rfl) (by kernel_rfl) (fun K hK => ?_)
              simp only [List.getElem_toArray, List.getElem_cons_zero, List.getElem_cons_succ]
              go_big_quiet_op
              refine hK _ ?_
              clear hK K
              refine mix_take 7 _ rfl (by kernel_rfl) (by kernel_rfl) (by kernel_rfl) (by kernel_rfl) (fun K hK => ?_)
              simp only [List.getElem_toArray, List.getElem_cons_zero, List.getElem_cons_succ]
              go_big_quiet_op
              refine hK _ ?_
              clear hK K
              refine mix_take 8 _ rfl (by kernel_rfl) (by kernel_rfl) (by kernel_rfl) (by kernel_rfl) (fun K hK => ?_)
              simp only [List.getElem_toArray, List.getElem_cons_zero, List.getElem_cons_succ]
              go_big_quiet_op
              refine hK _ ?_
              clear hK K
              refine mix_take 9 _ rfl (by kernel_rfl) (by kernel_rfl) (by kernel_rfl) (by kernel_rfl) (fun K hK => ?_)
              simp only [List.getElem_toArray, List.getElem_cons_zero, List.getElem_cons_succ]
              go_big_quiet_op
              refine hK _ ?_
              clear hK K
              refine mix_take 10 _ rfl (by kernel_rfl) (by kernel_rfl) (by kernel_rfl) (by kernel_rfl) (fun K hK => ?_)
              simp only [List.getElem_toArray, List.getElem_cons_zero, List.getElem_cons_succ]
              go_big_quiet_op
              refine hK _ ?_
              clear hK K
              refine mix_take 11 _ rfl (by kernel_rfl) (by kernel_rfl) (by kernel_rfl) (by kernel_rfl) (fun K hK => ?_)
              simp only [List.getElem_toArray, List.getElem_cons_zero, List.getElem_cons_succ]
              go_big_quiet_op
              refine hK _ ?_
              clear hK K
              refine mix_take 12 _ rfl (by kernel_rfl) (by kernel_rfl) (by kernel_rfl) (by kernel_rfl) (fun K hK => ?_)
              simp only [List.getElem_toArray, List.getElem_cons_zero, List.getElem_cons_succ]
              go_big_quiet_op
              refine hK _ ?_
              clear hK K
              refine mix_take 13 _ rfl (by kernel_rfl) (by kernel_rfl) (by kernel_rfl) (by kernel_rfl) (fun K hK => ?_)
              simp only [List.getElem_toArray, List.getElem_cons_zero, List.getElem_cons_succ]
              go_big_quiet_op
              refine hK _ ?_
              clear hK K
              refine mix_one 14 (by kernel_rfl) ?_
              refine lOp_call rfl (by kernel_rfl) 28 #[.slice (some ⟨b, off, none⟩) i cap, .int .i64 t] (fun _ => by kernel_rfl) (fun Wx hWx => ?_)
              obtain ⟨y, rfl⟩ := hWx
              refine (refOf_any (h.take i) (.slice (some ⟨b, off, none⟩) i cap) t y.W (HP1.out y.W (HLW.out y) i (by omega) (by omega)) (by rw [List.length_take]; omega)).mono ?_
              rintro e Wz ⟨vz, rfl, hIz, hbz⟩
              obtain ⟨az, bz, oz, cz, rfl, _⟩ := hIz
              rw [show ((h.take i).filter (fun o : Op3 => o.1 == t)).length = m from HM.out]
              refine ⟨_, rfl, ⟨⟨Wz, y.h.trans (hbz.mono (Nat.le_trans hC1 y.h.size))⟩, rfl⟩, ?_⟩
              clear hbz
              simp only [List.getElem_toArray, List.getElem_cons_zero, List.getElem_cons_succ, Act.put, List.setIfInBounds_toArray, List.set_cons_succ, List.set_cons_zero]
              refine mix_take 15 _ rfl (by kernel_rfl) (by kernel_rfl) (by kernel_rfl) (by kernel_rfl) (fun K hK => ?_)
              simp only [List.getElem_toArray, List.getElem_cons_zero, List.getElem_cons_succ]
              go_big_quiet_op
              refine hK _ ?_
              clear hK K
              refine mix_take 16 _ rfl (by kernel_rfl) (by kernel_rfl) (by kernel_rfl) (by kernel_rfl) (fun K hK => ?_)
              simp only [List.getElem_toArray, List.getElem_cons_zero, List.getElem_cons_succ]
              go_big_quiet_op
              refine ⟨_, fun y => HPL.out y, hK _ ?_⟩
              clear hK K
              refine mix_take 17 _ rfl (by kernel_rfl) (by kernel_rfl) (by kernel_rfl) (by kernel_rfl) (fun K hK => ?_)
              simp only [List.getElem_toArray, List.getElem_cons_zero, List.getElem_cons_succ]
              go_big_quiet_op
              refine hK _ ?_
              clear hK K
              refine mix_done (by kernel_rfl) ?_ _
              intro Wq hWq
              obtain ⟨y, hy⟩ := hWq
              have hbq : Below w.heap.size w Wq := by rw [hy]; exact HLW.out y
              clear hy y e0 hne HPL HLW hC1 hC2 hbel hsz
              obtain ⟨WQ, hWQ⟩ : ∃ W : World, W = Wq := ⟨_, rfl⟩
              subst hWQ
              go_wp2_with fail
              refine (writer_any h (.slice (some ⟨b, off, none⟩) h.length cap) i _ (HIJ.out _ hbq).1 hl hlt).mono ?_
              rintro e w4 ⟨rfl, hb4⟩
              have hb04 := hbq.trans (hb4.mono hbq.size)
              clear hb4 hbq
              rw [HO.out]
              go_wp2_with fail
              refine (writer_any g (.slice ad2 g.length cap2) k _ (HIJ.out _ hb04).2 hl2 hk).mono ?_
              rintro e w5 ⟨rfl, hb5⟩
              have hb05 := hb04.trans (hb5.mono hb04.size)
              have hs05 := hb05.size
              clear hb5 hb04
              cases hx : wrTo h x i with
              | none =>
                rw [wrI_none hx]
                cases hy : wrTo g (opAt g k).2.2 k with
                | none =>
                  rw [wrI_none hy]
                  have HOK : Hid (∀ j : Nat, j < i + 1 → (opAt h j).2.1 = 1 → readOk h g j = true) := fun j hj hrd => by
                    rcases Nat.lt_or_ge j i with e | e
                    · exact HALL.out j e hrd
                    · rw [show j = i by omega]; exact ok_none HSP.out (by rw [HO.out]; exact hx) hy
                  clear hx hy
                  go_wp2_with fail
                  go_quiet (fail)
                  go_wp2
                  go_roundw
                  case rel => exact ⟨i + 1, by omega, by go_num, HOK.out, below_drewN hb05 _⟩
                  case measure => simp [intOf]; omega
                | some y =>
                  rw [wrI_some hy]
                  have HR : Hid (sightB h g = false) := sight_not HV.out fun hh => by
                    have h1 := hh.2.2 i hlt (by rw [HO.out])
                    rw [ok_right HSP.out (by rw [HO.out]; exact hx) hy] at h1
                    cases h1
                  have hy0 : ¬ (y : Int) < 0 := by omega
                  clear hx hy
                  go_wp2_with fail
                  go_ret
                  exact ⟨by rw [HR.out]; rfl, hb05⟩
              | some q =>
                rw [wrI_some hx]
                have hq0 : ¬ (q : Int) < 0 := by omega
                have hq1 : (0 : Int) ≤ (q : Int) := by omega
                have hqi : q < i := wrTo_lt' hx
                cases hy : wrTo g (opAt g k).2.2 k with
                | none =>
                  rw [wrI_none hy]
                  have HR : Hid (sightB h g = false) := sight_not HV.out fun hh => by
                    have h1 := hh.2.2 i hlt (by rw [HO.out])
                    rw [ok_left HSP.out (by rw [HO.out]; exact hx) hy] at h1
                    cases h1
                  clear hx hy
                  go_wp2_with fail
                  go_ret
                  exact ⟨by rw [HR.out]; rfl, hb05⟩
                | some y =>
                  rw [wrI_some hy]
                  have hy0 : ¬ (y : Int) < 0 := by omega
                  have hyk : y < k := wrTo_lt' hy
                  have HRK : Hid (readOk h g i = ((opAt h q).1 == (opAt g y).1 && nthAt h q == nthAt g y)) := ok_both HSP.out (by rw [HO.out]; exact hx) hy
                  clear hx hy
                  obtain ⟨-, -, c0, -, -⟩ := HE.out w5 hb05 q (by omega)
                  obtain ⟨hadr2, hbl2, d0, -, -⟩ := HE2.out w5 hb05 y (by omega)
                  subst hadr2
                  obtain ⟨t1, ht1⟩ : ∃ t1, (opAt h q).1 = t1 := ⟨_, rfl⟩
                  obtain ⟨t2, ht2⟩ : ∃ t2, (opAt g y).1 = t2 := ⟨_, rfl⟩
                  rw [ht1] at c0
                  rw [ht2] at d0
                  have hql : (q : Int) < (h.length : Int) := by omega
                  have hyl : (y : Int) < (g.length : Int) := by omega
                  have hqc : q ≤ cap := by omega
                  have hyc : y ≤ cap2 := by omega
                  cases hne : (t1 != t2) with
                  | true =>
                    have HR : Hid (sightB h g = false) := sight_not HV.out fun hh => by
                      have h1 := hh.2.2 i hlt (by rw [HO.out])
                      rw [HRK.out, ht1, ht2] at h1
                      simp at h1
                      rw [h1.1] at hne
                      simp at hne
                    clear ht1 ht2
                    go_wp2_with fail
                    go_quiet (fail)
                    go_wp2
                    go_ret
                    exact ⟨by rw [HR.out]; rfl, below_drewN hb05 _⟩
                  | false =>
                    obtain rfl : t1 = t2 := by simpa using hne
                    obtain ⟨m1, hm1⟩ : ∃ m1, nthAt h q = m1 := ⟨_, rfl⟩
                    obtain ⟨m2, hm2⟩ : ∃ m2, nthAt g y = m2 := ⟨_, rfl⟩
                    have HM1 : Hid ((ofL (h.take q) t1).length = m1) := by rw [← hm1]; show _ = nthAt h q; unfold nthAt; rw [ht1]
                    have HM2 : Hid ((ofL (g.take y) t1).length = m2) := by rw [← hm2]; show _ = nthAt g y; unfold nthAt; rw [ht2]
                    have HRK2 : Hid (readOk h g i = (m1 == m2)) := by show readOk h g i = _; rw [HRK.out, ht1, ht2, hm1, hm2]; simp
                    clear hm1 hm2 ht1 ht2 hne
                    obtain ⟨B2, hC1, hC2⟩ : ∃ B2, B2 ≤ w5.heap.size ∧ w5.heap.size ≤ B2 := ⟨_, Nat.le_refl _, Nat.le_refl _⟩
                    have hnE : Nonempty (Later B2 w5) := ⟨⟨w5, Below.refl _ _⟩⟩
                    have e0 : ∀ y : Later B2 w5, y.W.cell? ⟨b, off + q * 3, none⟩ = some (.int .i64 t1) := fun z => (z.h.cell (p := ⟨b, off + q * 3, none⟩) (by simp; omega)).trans c0
                    have f0 : ∀ z : Later B2 w5, z.W.cell? ⟨b2, off2 + y * 3, none⟩ = some (.int .i64 t1) := fun z => (z.h.cell (p := ⟨b2, off2 + y * 3, none⟩) (by simp; omega)).trans d0
                    have HLW : Hid (∀ z : Later B2 w5, Below w.heap.size w z.W) := fun z => hb05.trans (z.h.mono (Nat.le_trans hs05 hC2))
                    clear c0 d0
                    cases hmm : ((m1 : Int) != (m2 : Int)) with
                    | true =>
                      have HR : Hid (sightB h g = false) := sight_not HV.out fun hh => by
                        have h1 := hh.2.2 i hlt (by rw [HO.out])
                        rw [HRK2.out] at h1
                        simp at h1
                        rw [h1] at hmm
                        simp at hmm
                      go_upto_region 20 with (fail)
                      refine region_mix B2 38 (by kernel_rfl) rfl ?_
                      refine mix_take 0 _ rfl (by kernel_rfl) (by kernel_rfl) (by kernel_rfl) (by kernel_rfl) (fun K hK => ?_)
                      simp only [List.getElem_toArray, List.getElem_cons_zero]
                      go_big_quiet_op
                      refine hK _ ?_
                      clear hK K
                      refine mix_take 1 _ rfl (by kernel_rfl) (by kernel_rfl) (by kernel_rfl) (by kernel_rfl) (fun K hK => ?_)
                      simp only [List.getElem_toArray, List.getElem_cons_zero, List.getElem_cons_succ]
                      go_big_quiet_op
                      refine hK _ ?_
                      clear hK K
                      refine mix_take 2 _ rfl (by kernel_rfl) (by kernel_rfl) (by kernel_rfl) (by kernel_rfl) (fun K hK => ?_)
                      simp only [List.getElem_toArray, List.getElem_cons_zero, List.getElem_cons_succ]
                      go_big_quiet_op
                      refine hK _ ?_
                      clear hK K
                      refine mix_take 3 _ rfl (by kernel_rfl) (by kernel_rfl) (by kernel_rfl) (by kernel_rfl) (fun K hK => ?_)
                      simp only [List.getElem_toArray, List.getElem_cons_zero, List.getElem_cons_succ]
                      go_big_quiet_op
                      refine hK _ ?_
                      clear hK K
                      refine mix_take 4 _ rfl (by kernel_rfl) (by kernel_rfl) (by kernel_rfl) (by kernel_rfl) (fun K hK => ?_)
                      simp only [List.getElem_toArray, List.getElem_cons_zero, List.getElem_cons_succ]
                      go_big_quiet_op
                      refine hK _ ?_
                      clear hK K
                      refine mix_take 5 _ rfl (by kernel_rfl) (by kernel_rfl) (by kernel_rfl) (by kernel_rfl) (fun K hK => ?_)
                      simp only [List.getElem_toArray, List.getElem_cons_zero, List.getElem_cons_succ]
                      go_big_quiet_op
                      refine hK _ ?_
                      clear hK K
                      refine mix_take 6 _ rfl (by kernel_rfl) (by kernel_rfl) (by kernel_rfl) (by kernel_rfl) (fun K hK => ?_)
                      simp only [List.getElem_toArray, List.getElem_cons_zero, List.getElem_cons_succ]
                      go_big_quiet_op
                      refine hK _ ?_
                      clear hK K
                      refine mix_take 7 _ rfl (by kernel_rfl) (by kernel_rfl) (by kernel_rfl) (by kernel_rfl) (fun K hK => ?_)
                      simp only [List.getElem_toArray, List.getElem_cons_zero, List.getElem_cons_succ]
                      go_big_quiet_op
                      refine hK _ ?_
                      clear hK K
                      refine mix_take 8 _ rfl (by kernel_rfl) (by kernel_rfl) (by kernel_rfl) (by kernel_rfl) (fun K hK => ?_)
                      simp only [List.getElem_toArray, List.getElem_cons_zero, List.getElem_cons_succ]
                      go_big_quiet_op
                      refine hK _ ?_
                      clear hK K
                      refine mix_take 9 _ rfl (by kernel_rfl) (by kernel_rfl) (by kernel_rfl) (by kernel_rfl) (fun K hK => ?_)
                      simp only [List.getElem_toArray, List.getElem_cons_zero, List.getElem_cons_succ]
                      go_big_quiet_op
                      refine hK _ ?_
                      clear hK K
                      refine mix_take 10 _ rfl (by kernel_rfl) (by kernel_rfl) (by kernel_rfl) (by kernel_rfl) (fun K hK => ?_)
                      simp only [List.getElem_toArray, List.getElem_cons_zero, List.getElem_cons_succ]
                      go_big_quiet_op
                      refine hK _ ?_
                      clear hK K
                      refine mix_take 11 _ rfl (by kernel_rfl) (by kernel_rfl) (by kernel_rfl) (by kernel_rfl) (fun K hK => ?_)
                      simp only [List.getElem_toArray, List.getElem_cons_zero, List.getElem_cons_succ]
                      go_big_quiet_op
                      refine hK _ ?_
                      clear hK K
                      refine mix_take 12 _ rfl (by kernel_rfl) (by kernel_rfl) (by kernel_rfl) (by kernel_rfl) (fun K hK => ?_)
                      simp only [List.getElem_toArray, List.getElem_cons_zero, List.getElem_cons_succ]
                      go_big_quiet_op
                      refine hK _ ?_
                      clear hK K
                      refine mix_take 13 _ rfl (by kernel_rfl) (by kernel_rfl) (by kernel_rfl) (by kernel_rfl) (fun K hK => ?_)
                      simp only [List.getElem_toArray, List.getElem_cons_zero, List.getElem_cons_succ]
                      go_big_quiet_op
                      refine hK _ ?_
                      clear hK K
                      refine mix_take 14 _ rfl (by kernel_rfl) (by kernel_rfl) (by kernel_rfl) (by kernel_rfl) (fun K hK => ?_)
                      simp only [List.getElem_toArray, List.getElem_cons_zero, List.getElem_cons_succ]
                      go_big_quiet_op
                      refine hK _ ?_
                      clear hK K
                      refine mix_take 15 _ rfl (by kernel_rfl) (by kernel_rfl) (by kernel_rfl) (by kernel_rfl) (fun K hK => ?_)
                      simp only [List.getElem_toArray, List.getElem_cons_zero, List.getElem_cons_succ]
                      go_big_quiet_op
                      refine hK _ ?_
                      clear hK K
                      refine mix_take 16 _ rfl (by kernel_rfl) (by kernel_rfl) (by kernel_rfl) (by kernel_rfl) (fun K hK => ?_)
                      simp only [List.getElem_toArray, List.getElem_cons_zero, List.getElem_cons_succ]
                      go_big_quiet_op
                      refine hK _ ?_
                      clear hK K
                      refine mix_take 17 _ rfl (by kernel_rfl) (by kernel_rfl) (by kernel_rfl) (by kernel_rfl) (fun K hK => ?_)
                      simp only [List.getElem_toArray, List.getElem_cons_zero, List.getElem_cons_succ]
                      go_big_quiet_op
                      refine hK _ ?_
                      clear hK K
                      refine mix_take 18 _ rfl (by kernel_rfl) (by kernel_rfl) (by kernel_rfl) (by kernel_rfl) (fun K hK => ?_)
                      simp only [List.getElem_toArray, List.getElem_cons_zero, List.getElem_cons_succ]
                      go_big_quiet_op
                      refine hK _ ?_
                      clear hK K
                      refine mix_take 19 _ rfl (by kernel_rfl) (by kernel_rfl) (by kernel_rfl) (by kernel_rfl) (fun K hK => ?_)
                      simp only [List.getElem_toArray, List.getElem_cons_zero, List.getElem_cons_succ]
                      go_big_quiet_op
                      refine hK _ ?_
                      clear hK K
                      refine mix_take 20 _ rfl (by kernel_rfl) (by kernel_rfl) (by kernel_rfl) (by kernel_rfl) (fun K hK => ?_)
                      simp only [List.getElem_toArray, List.getElem_cons_zero, List.getElem_cons_succ]
                      go_big_quiet_op
                      refine hK _ ?_
                      clear hK K
                      refine mix_take 21 _ rfl (by kernel_rfl) (by kernel_rfl) (by kernel_rfl) (by kernel_rfl) (fun K hK => ?_)
                      simp only [List.getElem_toArray, List.getElem_cons_zero, List.getElem_cons_succ]
                      go_big_quiet_op
                      refine hK _ ?_
                      clear hK K
                      refine mix_take 22 _ rfl (by kernel_rfl) (by kernel_rfl) (by kernel_rfl) (by kernel_rfl) (fun K hK => ?_)
                      simp only [List.getElem_toArray, List.getElem_cons_zero, List.getElem_cons_succ]
                      go_big_quiet_op
                      refine hK _ ?_
                      clear hK K
                      refine mix_take 25 _ rfl (by kernel_rfl) (by kernel_rfl) (by kernel_rfl) (by kernel_rfl) (fun K hK => ?_)
                      simp only [List.getElem_toArray, List.getElem_cons_zero, List.getElem_cons_succ]
                      go_big_quiet_op
                      refine hK _ ?_
                      clear hK K
                      refine mix_take 26 _ rfl (by kernel_rfl) (by kernel_rfl) (by kernel_rfl) (by kernel_rfl) (fun K hK => ?_)
                      simp only [List.getElem_toArray, List.getElem_cons_zero, List.getElem_cons_succ]
                      go_big_quiet_op
                      refine hK _ ?_
                      clear hK K
                      refine mix_take 27 _ rfl (by kernel_rfl) (by kernel_rfl) (by kernel_rfl) (by kernel_rfl) (fun K hK => ?_)
                      simp only [List.getElem_toArray, List.getElem_cons_zero, List.getElem_cons_succ]
                      go_big_quiet_op
                      refine hK _ ?_
                      clear hK K
                      refine mix_take 28 _ rfl (by kernel_rfl) (by kernel_rfl) (by kernel_rfl) (by kernel_rfl) (fun K hK => ?_)
                      simp only [List.getElem_toArray, List.getElem_cons_zero, List.getElem_cons_succ]
                      go_big_quiet_op
                      refine hK _ ?_
                      clear hK K
                      refine mix_take 29 _ rfl (by kernel_rfl) (by kernel_rfl) (by kernel_rfl) (by kernel_rfl) (fun K hK => ?_)
                      simp only [List.getElem_toArray, List.getElem_cons_zero, List.getElem_cons_succ]
                      go_big_quiet_op
                      refine hK _ ?_
                      clear hK K
                      refine mix_take 30 _ rfl (by kernel_rfl) (by kernel_rfl) (by kernel_rfl) (by kernel_rfl) (fun K hK => ?_)
                      simp only [List.getElem_toArray, List.getElem_cons_zero, List.getElem_cons_succ]
                      go_big_quiet_op
                      refine hK _ ?_
                      clear hK K
                      refine mix_take 31 _ rfl (by kernel_rfl) (by kernel_rfl) (by kernel_rfl) (by kernel_rfl) (fun K hK => ?_)
                      simp only [List.getElem_toArray, List.getElem_cons_zero, List.getElem_cons_succ]
                      go_big_quiet_op
                      refine hK _ ?_
                      clear hK K
                      refine mix_take 32 _ rfl (by kernel_rfl) (by kernel_rfl) (by kernel_rfl) (by kernel_rfl) (fun K hK => ?_)
                      simp only [List.getElem_toArray, List.getElem_cons_zero, List.getElem_cons_succ]
                      go_big_quiet_op
                      refine hK _ ?_
                      clear hK K
                      refine mix_one 23 (by kernel_rfl) ?_
                      refine lOp_call rfl (by kernel_rfl) 28 #[.slice (some ⟨b, off, none⟩) q cap, .int .i64 t1] (fun _ => by kernel_rfl) (fun Wx hWx => ?_)
                      obtain ⟨z1, rfl⟩ := hWx
                      refine (refOf_any (h.take q) (.slice (some ⟨b, off, none⟩) q cap) t1 z1.W (HP1.out z1.W (HLW.out z1) q (by omega) (by omega)) (by rw [List.length_take]; omega)).mono ?_
                      rintro e Wz ⟨vz, rfl, hIz, hbz⟩
                      obtain ⟨az, bz, oz, cz, rfl, _⟩ := hIz
                      rw [show ((h.take q).filter (fun o : Op3 => o.1 == t1)).length = m1 from HM1.out]
                      refine ⟨_, rfl, ⟨⟨Wz, z1.h.trans (hbz.mono (Nat.le_trans hC1 z1.h.size))⟩, rfl⟩, ?_⟩
                      clear hbz
                      simp only [List.getElem_toArray, List.getElem_cons_zero, List.getElem_cons_succ, Act.put, List.setIfInBounds_toArray, List.set_cons_succ, List.set_cons_zero]
                      refine mix_take 24 _ rfl (by kernel_rfl) (by kernel_rfl) (by kernel_rfl) (by kernel_rfl) (fun K hK => ?_)
                      simp only [List.getElem_toArray, List.getElem_cons_zero, List.getElem_cons_succ]
                      go_big_quiet_op
                      refine hK _ ?_
                      clear hK K
                      refine mix_one 33 (by kernel_rfl) ?_
                      refine lOp_call rfl (by kernel_rfl) 28 #[.slice (some ⟨b2, off2, none⟩) y cap2, .int .i64 t1] (fun _ => by kernel_rfl) (fun Wx hWx => ?_)
                      obtain ⟨z, rfl⟩ := hWx
                      refine (refOf_any (g.take y) (.slice (some ⟨b2, off2, none⟩) y cap2) t1 z.W (HP2.out z.W (HLW.out z) y (by omega) (by omega)) (by rw [List.length_take]; omega)).mono ?_
                      rintro e Wz ⟨vz, rfl, hIz, hbz⟩
                      obtain ⟨az, bz, oz, cz, rfl, _⟩ := hIz
                      rw [show ((g.take y).filter (fun o : Op3 => o.1 == t1)).length = m2 from HM2.out]
                      refine ⟨_, rfl, ⟨⟨Wz, z.h.trans (hbz.mono (Nat.le_trans hC1 z.h.size))⟩, rfl⟩, ?_⟩
                      clear hbz
                      simp only [List.getElem_toArray, List.getElem_cons_zero, List.getElem_cons_succ, Act.put, List.setIfInBounds_toArray, List.set_cons_succ, List.set_cons_zero]
                      refine mix_take 34 _ rfl (by kernel_rfl) (by kernel_rfl) (by kernel_rfl) (by kernel_rfl) (fun K hK => ?_)
                      simp only [List.getElem_toArray, List.getElem_cons_zero, List.getElem_cons_succ]
                      go_big_quiet_op
                      refine hK _ ?_
                      clear hK K
                      refine mix_take 35 _ rfl (by kernel_rfl) (by kernel_rfl) (by kernel_rfl) (by kernel_rfl) (fun K hK => ?_)
                      simp only [List.getElem_toArray, List.getElem_cons_zero, List.getElem_cons_succ]
                      go_big_quiet_op
                      refine hK _ ?_
                      clear hK K
                      refine mix_take 36 _ rfl (by kernel_rfl) (by kernel_rfl) (by kernel_rfl) (by kernel_rfl) (fun K hK => ?_)
                      simp only [List.getElem_toArray, List.getElem_cons_zero, List.getElem_cons_succ]
                      go_big_quiet_op
                      refine hK _ ?_
                      clear hK K
                      refine mix_take 37 _ rfl (by kernel_rfl) (by kernel_rfl) (by kernel_rfl) (by kernel_rfl) (fun K hK => ?_)
                      simp only [List.getElem_toArray, List.getElem_cons_zero, List.getElem_cons_succ]
                      go_big_quiet_op
                      refine hK _ ?_
                      clear hK K
                      refine mix_done (by kernel_rfl) ?_ _
                      intro Wq hWq
                      obtain ⟨z, rfl⟩ := hWq
                      go_wp2
                      go_ret
                      exact ⟨by rw [HR.out]; rfl, HLW.out z⟩
                    | false =>
                      have HOK : Hid (∀ j : Nat, j < i + 1 → (opAt h j).2.1 = 1 → readOk h g j = true) := fun j hj hrd => by
                        rcases Nat.lt_or_ge j i with e | e
                        · exact HALL.out j e hrd
                        · rw [show j = i by omega, HRK2.out]
                          have : (m1 : Int) = (m2 : Int) := by simpa using hmm
                          simp; omega
                      go_upto_region 20 with (fail)
                      refine region_mix B2 38 (by kernel_rfl) rfl ?_
                      refine mix_take 0 _ rfl (by kernel_rfl) (by kernel_rfl) (by kernel_rfl) (by kernel_rfl) (fun K hK => ?_)
                      simp only [List.getElem_toArray, List.getElem_cons_zero]
                      go_big_quiet_op
                      refine hK _ ?_
                      clear hK K
                      refine mix_take 1 _ rfl (by kernel_rfl) (by kernel_rfl) (by kernel_rfl) (by kernel_rfl) (fun K hK => ?_)
                      simp only [List.getElem_toArray, List.getElem_cons_zero, List.getElem_cons_succ]
                      go_big_quiet_op
                      refine hK _ ?_
                      clear hK K
                      refine mix_take 2 _ rfl (by kernel_rfl) (by kernel_rfl) (by kernel_rfl) (by kernel_rfl) (fun K hK => ?_)
                      simp only [List.getElem_toArray, List.getElem_cons_zero, List.getElem_cons_succ]
                      go_big_quiet_op
                      refine hK _ ?_
                      clear hK K
                      refine mix_take 3 _ rfl (by kernel_rfl) (by kernel_rfl) (by kernel_rfl) (by kernel_rfl) (fun K hK => ?_)
                      simp only [List.getElem_toArray, List.getElem_cons_zero, List.getElem_cons_succ]
                      go_big_quiet_op
                      refine hK _ ?_
                      clear hK K
                      refine mix_take 4 _ rfl (by kernel_rfl) (by kernel_rfl) (by kernel_rfl) (by kernel_rfl) (fun K hK => ?_)
                      simp only [List.getElem_toArray, List.getElem_cons_zero, List.getElem_cons_succ]
                      go_big_quiet_op
                      refine hK _ ?_
                      clear hK K
                      refine mix_take 5 _ rfl (by kernel_rfl) (by kernel_rfl) (by kernel_rfl) (by kernel_rfl) (fun K hK => ?_)
                      simp only [List.getElem_toArray, List.getElem_cons_zero, List.getElem_cons_succ]
                      go_big_quiet_op
                      refine hK _ ?_
                      clear hK K
                      refine mix_take 6 _ rfl (by kernel_rfl) (by kernel_rfl) (by kernel_rfl) (by kernel_rfl) (fun K hK => ?_)
                      simp only [List.getElem_toArray, List.getElem_cons_zero, List.getElem_cons_succ]
                      go_big_quiet_op
                      refine hK _ ?_
                      clear hK K
                      refine mix_take 7 _ rfl (by kernel_rfl) (by kernel_rfl) (by kernel_rfl) (by kernel_rfl) (fun K hK => ?_)
                      simp only [List.getElem_toArray, List.getElem_cons_zero, List.getElem_cons_succ]
                      go_big_quiet_op
                      refine hK _ ?_
                      clear hK K
                      refine mix_take 8 _ rfl (by kernel_rfl) (by kernel_rfl) (by kernel_rfl) (by kernel_rfl) (fun K hK => ?_)
                      simp only [List.getElem_toArray, List.getElem_cons_zero, List.getElem_cons_succ]
                      go_big_quiet_op
                      refine hK _ ?_
                      clear hK K
                      refine mix_take 9 _ rfl (by kernel_rfl) (by kernel_rfl) (by kernel_rfl) (by kernel_rfl) (fun K hK => ?_)
                      simp only [List.getElem_toArray, List.getElem_cons_zero, List.getElem_cons_succ]
                      go_big_quiet_op
                      refine hK _ ?_
                      clear hK K
                      refine mix_take 10 _ rfl (by kernel_rfl) (by kernel_rfl) (by kernel_rfl) (by kernel_rfl) (fun K hK => ?_)
                      simp only [List.getElem_toArray, List.getElem_cons_zero, List.getElem_cons_succ]
                      go_big_quiet_op
                      refine hK _ ?_
                      clear hK K
                      refine mix_take 11 _ rfl (by kernel_rfl) (by kernel_rfl) (by kernel_rfl) (by kernel_rfl) (fun K hK => ?_)
                      simp only [List.getElem_toArray, List.getElem_cons_zero, List.getElem_cons_succ]
                      go_big_quiet_op
                      refine hK _ ?_
                      clear hK K
                      refine mix_take 12 _ rfl (by kernel_rfl) (by kernel_rfl) (by kernel_rfl) (by kernel_rfl) (fun K hK => ?_)
                      simp only [List.getElem_toArray, List.getElem_cons_zero, List.getElem_cons_succ]
                      go_big_quiet_op
                      refine hK _ ?_
                      clear hK K
                      refine mix_take 13 _ rfl (by kernel_rfl) (by kernel_rfl) (by kernel_rfl) (by kernel_rfl) (fun K hK => ?_)
                      simp only [List.getElem_toArray, List.getElem_cons_zero, List.getElem_cons_succ]
                      go_big_quiet_op
                      refine hK _ ?_
                      clear hK K
                      refine mix_take 14 _ rfl (by kernel_rfl) (by kernel_rfl) (by kernel_rfl) (by kernel_rfl) (fun K hK => ?_)
                      simp only [List.getElem_toArray, List.getElem_cons_zero, List.getElem_cons_succ]
                      go_big_quiet_op
                      refine hK _ ?_
                      clear hK K
                      refine mix_take 15 _ rfl (by kernel_rfl) (by kernel_rfl) (by kernel_rfl) (by kernel_rfl) (fun K hK => ?_)
                      simp only [List.getElem_toArray, List.getElem_cons_zero, List.getElem_cons_succ]
                      go_big_quiet_op
                      refine hK _ ?_
                      clear hK K
                      refine mix_take 16 _ rfl (by kernel_rfl) (by kernel_rfl) (by kernel_rfl) (by kernel_rfl) (fun K hK => ?_)
                      simp only [List.getElem_toArray, List.getElem_cons_zero, List.getElem_cons_succ]
                      go_big_quiet_op
                      refine hK _ ?_
                      clear hK K
                      refine mix_take 17 _ rfl (by kernel_rfl) (by kernel_rfl) (by kernel_rfl) (by kernel_rfl) (fun K hK => ?_)
                      simp only [List.getElem_toArray, List.getElem_cons_zero, List.getElem_cons_succ]
                      go_big_quiet_op
                      refine hK _ ?_
                      clear hK K
                      refine mix_take 18 _ rfl (by kernel_rfl) (by kernel_rfl) (by kernel_rfl) (by kernel_rfl) (fun K hK => ?_)
                      simp only [List.getElem_toArray, List.getElem_cons_zero, List.getElem_cons_succ]
                      go_big_quiet_op
                      refine hK _ ?_
                      clear hK K
                      refine mix_take 19 _ rfl (by kernel_rfl) (by kernel_rfl) (by kernel_rfl) (by kernel_rfl) (fun K hK => ?_)
                      simp only [List.getElem_toArray, List.getElem_cons_zero, List.getElem_cons_succ]
                      go_big_quiet_op
                      refine hK _ ?_
                      clear hK K
                      refine mix_take 20 _ rfl (by kernel_rfl) (by kernel_rfl) (by kernel_rfl) (by kernel_rfl) (fun K hK => ?_)
                      simp only [List.getElem_toArray, List.getElem_cons_zero, List.getElem_cons_succ]
                      go_big_quiet_op
                      refine hK _ ?_
                      clear hK K
                      refine mix_take 21 _ rfl (by kernel_rfl) (by kernel_rfl) (by kernel_rfl) (by kernel_rfl) (fun K hK => ?_)
                      simp only [List.getElem_toArray, List.getElem_cons_zero, List.getElem_cons_succ]
                      go_big_quiet_op
                      refine hK _ ?_
                      clear hK K
                      refine mix_take 22 _ rfl (by kernel_rfl) (by kernel_rfl) (by kernel_rfl) (by kernel_rfl) (fun K hK => ?_)
                      simp only [List.getElem_toArray, List.getElem_cons_zero, List.getElem_cons_succ]
                      go_big_quiet_op
                      refine hK _ ?_
                      clear hK K
                      refine mix_take 25 _ rfl (by kernel_rfl) (by kernel_rfl) (by kernel_rfl) (by kernel_rfl) (fun K hK => ?_)
                      simp only [List.getElem_toArray, List.getElem_cons_zero, List.getElem_cons_succ]
                      go_big_quiet_op
                      refine hK _ ?_
                      clear hK K
                      refine mix_take 26 _ rfl (by kernel_rfl) (by kernel_rfl) (by kernel_rfl) (by kernel_rfl) (fun K hK => ?_)
                      simp only [List.getElem_toArray, List.getElem_cons_zero, List.getElem_cons_succ]
                      go_big_quiet_op
                      refine hK _ ?_
                      clear hK K
                      refine mix_take 27 _ rfl (by kernel_rfl) (by kernel_rfl) (by kernel_rfl) (by kernel_rfl) (fun K hK => ?_)
                      simp only [List.getElem_toArray, List.getElem_cons_zero, List.getElem_cons_succ]
                      go_big_quiet_op
                      refine hK _ ?_
                      clear hK K
                      refine mix_take 28 _ rfl (by kernel_rfl) (by kernel_rfl) (by kernel_rfl) (by kernel_rfl) (fun K hK => ?_)
                      simp only [List.getElem_toArray, List.getElem_cons_zero, List.getElem_cons_succ]
                      go_big_quiet_op
                      refine hK _ ?_
                      clear hK K
                      refine mix_take 29 _ rfl (by kernel_rfl) (by kernel_rfl) (by kernel_rfl) (by kernel_rfl) (fun K hK => ?_)
                      simp only [List.getElem_toArray, List.getElem_cons_zero, List.getElem_cons_succ]
                      go_big_quiet_op
                      refine hK _ ?_
                      clear hK K
                      refine mix_take 30 _ rfl (by kernel_rfl) (by kernel_rfl) (by kernel_rfl) (by kernel_rfl) (fun K hK => ?_)
                      simp only [List.getElem_toArray, List.getElem_cons_zero, List.getElem_cons_succ]
                      go_big_quiet_op
                      refine hK _ ?_
                      clear hK K
                      refine mix_take 31 _ rfl (by kernel_rfl) (by kernel_rfl) (by kernel_rfl) (by kernel_rfl) (fun K hK => ?_)
                      simp only [List.getElem_toArray, List.getElem_cons_zero, List.getElem_cons_succ]
                      go_big_quiet_op
                      refine hK _ ?_
                      clear hK K
                      refine mix_take 32 _ rfl (by kernel_rfl) (by kernel_rfl) (by kernel_rfl) (by kernel_rfl) (fun K hK => ?_)
                      simp only [List.getElem_toArray, List.getElem_cons_zero, List.getElem_cons_succ]
                      go_big_quiet_op
                      refine hK _ ?_
                      clear hK K
                      refine mix_one 23 (by kernel_rfl) ?_
                      refine lOp_call rfl (by kernel_rfl) 28 #[.slice (some ⟨b, off, none⟩) q cap, .int .i64 t1] (fun _ => by kernel_rfl) (fun Wx hWx => ?_)
                      obtain ⟨z1, rfl⟩ := hWx
                      refine (refOf_any (h.take q) (.slice (some ⟨b, off, none⟩) q cap) t1 z1.W (HP1.out z1.W (HLW.out z1) q (by omega) (by omega)) (by rw [List.length_take]; omega)).mono ?_
                      rintro e Wz ⟨vz, rfl, hIz, hbz⟩
                      obtain ⟨az, bz, oz, cz, rfl, _⟩ := hIz
                      rw [show ((h.take q).filter (fun o : Op3 => o.1 == t1)).length = m1 from HM1.out]
                      refine ⟨_, rfl, ⟨⟨Wz, z1.h.trans (hbz.mono (Nat.le_trans hC1 z1.h.size))⟩, rfl⟩, ?_⟩
                      clear hbz
                      simp only [List.getElem_toArray, List.getElem_cons_zero, List.getElem_cons_succ, Act.put, List.setIfInBounds_toArray, List.set_cons_succ, List.set_cons_zero]
                      refine mix_take 24 _ rfl (by kernel_rfl) (by kernel_rfl) (by kernel_rfl) (by kernel_rfl) (fun K hK => ?_)
                      simp only [List.getElem_toArray, List.getElem_cons_zero, List.getElem_cons_succ]
                      go_big_quiet_op
                      refine hK _ ?_
                      clear hK K
                      refine mix_one 33 (by kernel_rfl) ?_
                      refine lOp_call rfl (by kernel_rfl) 28 #[.slice (some ⟨b2, off2, none⟩) y cap2, .int .i64 t1] (fun _ => by kernel_rfl) (fun Wx hWx => ?_)
                      obtain ⟨z, rfl⟩ := hWx
                      refine (refOf_any (g.take y) (.slice (some ⟨b2, off2, none⟩) y cap2) t1 z.W (HP2.out z.W (HLW.out z) y (by omega) (by omega)) (by rw [List.length_take]; omega)).mono ?_
                      rintro e Wz ⟨vz, rfl, hIz, hbz⟩
                      obtain ⟨az, bz, oz, cz, rfl, _⟩ := hIz
                      rw [show ((g.take y).filter (fun o : Op3 => o.1 == t1)).length = m2 from HM2.out]
                      refine ⟨_, rfl, ⟨⟨Wz, z.h.trans (hbz.mono (Nat.le_trans hC1 z.h.size))⟩, rfl⟩, ?_⟩
                      clear hbz
                      simp only [List.getElem_toArray, List.getElem_cons_zero, List.getElem_cons_succ, Act.put, List.setIfInBounds_toArray, List.set_cons_succ, List.set_cons_zero]
                      refine mix_take 34 _ rfl (by kernel_rfl) (by kernel_rfl) (by kernel_rfl) (by kernel_rfl) (fun K hK => ?_)
                      simp only [List.getElem_toArray, List.getElem_cons_zero, List.getElem_cons_succ]
                      go_big_quiet_op
                      refine hK _ ?_
                      clear hK K
                      refine mix_take 35 _ rfl (by kernel_rfl) (by kernel_rfl) (by kernel_rfl) (by kernel_rfl) (fun K hK => ?_)
                      simp only [List.getElem_toArray, List.getElem_cons_zero, List.getElem_cons_succ]
                      go_big_quiet_op
                      refine hK _ ?_
                      clear hK K
                      refine mix_take 36 _ rfl (by kernel_rfl) (by kernel_rfl) (by kernel_rfl) (by kernel_rfl) (fun K hK => ?_)
                      simp only [List.getElem_toArray, List.getElem_cons_zero, List.getElem_cons_succ]
                      go_big_quiet_op
                      refine hK _ ?_
                      clear hK K
                      refine mix_take 37 _ rfl (by kernel_rfl) (by kernel_rfl) (by kernel_rfl) (by kernel_rfl) (fun K hK => ?_)
                      simp only [List.getElem_toArray, List.getElem_cons_zero, List.getElem_cons_succ]
                      go_big_quiet_op
                      refine hK _ ?_
                      clear hK K
                      refine mix_done (by kernel_rfl) ?_ _
                      intro Wq hWq
                      obtain ⟨z, rfl⟩ := hWq
                      go_wp2
                      go_roundw
                      case rel => exact ⟨i + 1, by omega, by go_num, HOK.out, HLW.out z⟩
                      case measure => simp [intOf]; omega
            · have ha1' : (a != 1) = true := by simpa using ha1
              have HOK : Hid (∀ j : Nat, j < i + 1 → (opAt h j).2.1 = 1 → readOk h g j = true) := fun j hj hrd => by
                rcases Nat.lt_or_ge j i with e | e
                · exact HALL.out j e hrd
                · rw [show j = i by omega, HO.out] at hrd; exact absurd hrd ha1
              clear ha1
              go_wp2_with fail
              go_roundw
              case rel => exact ⟨i + 1, by omega, by go_num, HOK.out, hbel⟩
              case measure => simp [intOf]; omega
          · have hlt' : ¬ (i : Int) < (h.length : Int) := by omega
            have HR : Hid (sightB h g = true) := HV.out.1 ⟨HD.out, HLS.out, fun j hj hrd => HALL.out j (by omega) hrd⟩
            go_wp2_with fail
            go_ret
            exact ⟨by rw [HR.out]; rfl, hbel⟩
end Go.Proofs.YtjaeaanpbdmfgabGreatDoor
