/-
  PROVED HERE: serial.namesEachOnce tells whether a list, sorted, is the other one. Old memory stays as it was.
  Conditions: the second list is of at most 6 numbers.
  PROVED HERE: serial.Serial gives Check's error of a wrong list, ErrShape where the order does not name each deal that commits once, else the ops of what is done, deal by deal along the order. Old memory stays as it was.
  Conditions: none.
  (Of these, what the claim wants: the rest was left out.)
-/
import Derived.Test.YtmjjiehnjghndaaGreatMgaz
import Derived.Test.YtmjjiehnjghndaaGreatMgay
namespace Go.Proofs.YtmjjiehnjghndaaGreat
open Go.RowKit

set_option maxHeartbeats 2000000 in
theorem names_any (o d : List Int) (u v : Value) (w : World) (hu : IsInts w u o) (hv : IsInts w v d) (hd : d.length ≤ 6) :
    Calls Tryz.prog 27 #[u, v] w fun e w' => e = .returned (.bool (sortI o == d)) ∧ Below w.heap.size w w' := by
  by_cases hlen : o.length = d.length
  · have HU : Hid (IsInts w u o) := hu
    have HV : Hid (∀ W, Below w.heap.size w W → IsInts W v d) := fun W hW => hv.below hW (Nat.le_refl _)
    obtain ⟨ad, b, off, cap, hu1, -, -, -, -⟩ := hu
    obtain ⟨ad2, b2, off2, cap2, hv1, -, -, -, -⟩ := hv
    have HL : Hid (o.length ≤ 6) := by show o.length ≤ 6; omega
    have HD : Hid (d.length ≤ 6) := hd
    rw [hlen] at hu1
    obtain ⟨n, hn⟩ : ∃ n, d.length = n := ⟨_, rfl⟩
    rw [hn] at hu1 hv1
    subst hu1 hv1
    clear hn hlen hd
    go_enter Tryz.func27, Tryz.ntmps27
    go_wp2_with fail
    refine (clone_ints o _ _ HU.out (by have := HL.out; omega)).mono ?_
    rintro e w1 ⟨v1, rfl, hown1, hb1⟩
    have HO1 : Hid (w1.ownsRow w.heap.size 3 1 v1 o.length (o.map (Value.int .i64))) := hown1
    clear hown1
    go_wp2_with fail
    refine (sort_own o _ _ _ _ rfl (by have := HL.out; omega) HO1.out).mono ?_
    rintro e w2 ⟨rfl, hown2, hgr2⟩
    have hb2 : Below w.heap.size w w2 := hb1.grown hgr2 hb1.size (fun m hm => (HO1.out.lt m hm).1)
    have HO2 : Hid (IsInts w2 v1 (sortI o)) := isInts_own hown2 (sortI_perm o).length_eq
    clear hown2 hgr2
    go_wp2_with fail
    refine (equal_ints (sortI o) d _ _ _ HO2.out (HV.out _ hb2) (by rw [(sortI_perm o).length_eq]; have := HL.out; omega) (by have := HD.out; omega)).mono ?_
    rintro e w3 ⟨rfl, hb3⟩
    go_wp2_with fail
    go_ret
    exact ⟨rfl, hb2.trans (hb3.mono hb2.size)⟩
  · have HF : Hid ((sortI o == d) = false) := beq_len (by rw [(sortI_perm o).length_eq]; exact hlen)
    obtain ⟨ad, b, off, cap, rfl, -, -, -, -⟩ := hu
    obtain ⟨ad2, b2, off2, cap2, rfl, -, -, -, -⟩ := hv
    have hne : ((o.length : Int) == (d.length : Int)) = false := by
      rw [beq_eq_false_iff_ne]; omega
    clear hlen hd
    go_enter Tryz.func27, Tryz.ntmps27
    go_wp2_with fail
    go_ret
    exact ⟨by rw [HF.out]; rfl, Below.refl _ _⟩
end Go.Proofs.YtmjjiehnjghndaaGreat

namespace Go.Proofs.YtmjjiehnjghndaaGreat
open Go.RowKit

set_option maxHeartbeats 4000000 in
set_option maxRecDepth 100000 in
theorem ser_ok (l : List Op3) (o : List Int) (v u : Value) (w : World) (h : IsOps w v l) (hu : IsInts w u o) (hc : (chk l).2 = 0) (hs : sortI o = dealsL (doneL l)) :
    Calls Tryz.prog 8 #[v, u] w fun e w' => ∃ v', e = .returned (.tuple #[v', .nilIface]) ∧ IsOps w' v' (alongL (doneL l) o) ∧ Below w.heap.size w w' := by
  have hdd := ddeals_ok l v w h hc
  have hcd := chk_done hc
  have ho6 := order_len hs
  have hod : ∀ x ∈ o, 1 ≤ x ∧ x ≤ 6 ∧ 0 < (ofL (doneL l) x).length := fun x hx => by
    have h1 := mem_deals.1 ((sort_perm hs).mem_iff.1 hx)
    exact ⟨h1.1, h1.2.1, of_some h1.2.2⟩
  obtain ⟨d, hd⟩ : ∃ d, doneL l = d := ⟨_, rfl⟩
  rw [hd] at hdd hcd hs hod ⊢
  have hl40 := chk_len hcd
  have HCD : Hid ((chk d).2 = 0) := hcd
  have HOD : Hid (∀ x ∈ o, 1 ≤ x ∧ x ≤ 6 ∧ 0 < (ofL d x).length) := hod
  have HS : Hid ((sortI o == dealsL d) = true) := by show (sortI o == dealsL d) = true; rw [hs]; simp
  have HD : Hid (Calls Tryz.prog 20 #[v] w fun e w' => ∃ u v', e = .returned (.tuple #[u, v', .nilIface]) ∧ IsOps w' u d ∧ w'.ownsRow w.heap.size 3 1 v' (dealsL d).length ((dealsL d).map (Value.int .i64)) ∧ Below w.heap.size w w') := hdd
  have HUI : Hid (∀ W, Below w.heap.size w W → IsInts W u o) := fun W hW => hu.below hW (Nat.le_refl _)
  have HAL : Hid (∀ k, (alongL d (o.take k)).length ≤ 240) := fun k => by
    have h1 := along_len d (o.take k)
    have h2 : (o.take k).length ≤ 6 := by have := List.length_take_le' k o; omega
    have h3 := Nat.mul_le_mul h2 hl40
    omega
  have HOL : Hid (∀ t, (ofL d t).length ≤ 40) := fun t => Nat.le_trans (List.length_filter_le ..) hl40
  obtain ⟨ad, b, off, cap, rfl, ha, -, hbB, hcl⟩ := hu
  have HU : Hid (∀ W, Below w.heap.size w W → ∀ k, k < o.length → ad = some ⟨b, off, none⟩ ∧ W.cell? ⟨b, off + k, none⟩ = some (.int .i64 (o.getD k 0))) := fun W hW k hk => by
    have hb : b < w.heap.size := by
      rcases hbB with h | h
      · exact h
      · subst h; simp at hk
    exact ⟨ha (by omega), (hW.cell (p := ⟨b, off + k, none⟩) hb).trans (hcl k hk)⟩
  obtain ⟨i0, hi, hz0, hs0, hy0⟩ := info_parts infoOp
  have HI : Hid (Tryz.prog.info? 38 = some i0 ∧ i0.zero = some (.agg #[.int .i64 0, .int .i64 0, .int .i64 0]) ∧ i0.size = 3 ∧ i0.bytes = 24) := ⟨hi, hz0, hs0, hy0⟩
  clear hi hz0 hs0 hy0 hdd hcd hs hod ha hbB hcl h hc hd
  go_enter Tryz.func8, Tryz.ntmps8
  go_wp2_with fail
  refine HD.out.mono ?_
  rintro e w1 ⟨u1, v1, rfl, hI1, hown1, hb1⟩
  have HI1 : Hid (IsOps w1 u1 d) := hI1
  have HD1 : Hid (IsInts w1 v1 (dealsL d)) := isInts_own hown1 rfl
  clear hI1 hown1
  go_wp2_with fail
  refine (names_any o (dealsL d) _ _ _ (HUI.out _ hb1) HD1.out (dealsTo_len _ 6)).mono ?_
  rintro e w2 ⟨rfl, hb2⟩
  rw [HS.out]
  have HB2 : Hid (Below w.heap.size w w2) := hb1.trans (hb2.mono hb1.size)
  have HI2 : Hid (∀ W, Below w2.heap.size w2 W → IsOps W u1 d) := fun W hW => (HI1.out.below hb2 (Nat.le_refl _)).below hW (Nat.le_refl _)
  have HU2 : Hid (∀ W, Below w2.heap.size w2 W → ∀ k, k < o.length → ad = some ⟨b, off, none⟩ ∧ W.cell? ⟨b, off + k, none⟩ = some (.int .i64 (o.getD k 0))) := fun W hW => HU.out W (HB2.out.trans (hW.mono HB2.out.size))
  clear hb1 hb2
  go_wp2_with fail
  go_loopw [9, 30] (fun v9 v30 wr => ∃ k : Nat, k ≤ o.length ∧ v30 = .int .i64 k ∧ wr.ownsRow w2.heap.size 38 3 v9 (alongL d (o.take k)).length (flat (alongL d (o.take k))) ∧ Below w2.heap.size w2 wr) (fun _ v30 _ => o.length - (intOf v30).toNat)
  case atStart => exact ⟨0, Nat.zero_le _, rfl, World.ownsRow_nil _ _ _ _, Below.refl _ _⟩
  case round =>
    obtain ⟨k, hk, rfl, hown, hbel⟩ := hrel
    have hsz := hbel.size
    by_cases hlt : k < o.length
    · have hlt' : (k : Int) < (o.length : Int) := by omega
      obtain ⟨hadr, c0⟩ := HU2.out wr hbel k hlt
      subst hadr
      obtain ⟨t, ht⟩ : ∃ t, o.getD k 0 = t := ⟨_, rfl⟩
      rw [ht] at c0
      have htm : t ∈ o := by rw [← ht]; simp [List.getD, List.getElem?_eq_getElem hlt]
      have HT : Hid (alongL d (o.take (k + 1)) = alongL d (o.take k) ++ ofL d t) := by
        show alongL d (o.take (k + 1)) = alongL d (o.take k) ++ ofL d t
        rw [List.take_succ_eq_append_getElem hlt, ← along_snoc, ← ht]; simp [List.getD, List.getElem?_eq_getElem hlt]
      have HTT : Hid (1 ≤ t ∧ t ≤ 6 ∧ 0 < (ofL d t).length) := HOD.out t htm
      clear ht htm
      have HOWN : Hid (wr.ownsRow w2.heap.size 38 3 u9 (alongL d (o.take k)).length (flat (alongL d (o.take k)))) := hown
      have ha1 := HAL.out k
      obtain ⟨al, hal⟩ : ∃ al, alongL d (o.take k) = al := ⟨_, rfl⟩
      rw [hal] at HT HOWN ha1
      obtain ⟨n1, hn1⟩ : ∃ n1, al.length = n1 := ⟨_, rfl⟩
      rw [hn1] at HOWN ha1
      have HN1 : Hid (al.length = n1) := hn1
      clear hown hal hn1
      go_wp2_with fail
      refine (of_ok d u1 t _ (HI2.out wr hbel) HCD.out HTT.out.1 HTT.out.2.1).mono ?_
      rintro e w3 ⟨v3, rfl, hI3, hb3⟩
      have HB3 : Hid (Below w2.heap.size w2 w3) := hbel.trans (hb3.mono hsz)
      have HOWN3 : Hid (w3.ownsRow w2.heap.size 38 3 u9 n1 (flat al)) := own_below HOWN.out hb3 (Nat.le_refl _)
      have hsz3 := HB3.out.size
      have ho1 := HOL.out t
      obtain ⟨ol, hol⟩ : ∃ ol, ofL d t = ol := ⟨_, rfl⟩
      rw [hol] at hI3 HT HTT ho1
      obtain ⟨ad3, b3, off3, cap3, rfl, ha3, -, -, hops3⟩ := hI3
      have hpos := HTT.out.2.2
      obtain rfl := ha3 hpos
      have HS3 : Hid (∀ j u, (flat ol)[j]? = some u → w3.cell? ⟨b3, off3 + j, none⟩ = some u) := hops3.flat
      obtain ⟨n3, hn3⟩ : ∃ n3, ol.length = n3 := ⟨_, rfl⟩
      rw [hn3] at ho1 hpos ⊢
      have HN3 : Hid (ol.length = n3) := hn3
      clear hol ha3 hops3 hn3 hb3 HOWN
      go_wp2_with (at_builtin; refine wpList_append_own _ rfl (.tmp 43) (.tmp 44) 22 rfl w2.heap.size 38 i0 (.agg #[.int .i64 0, .int .i64 0, .int .i64 0]) 3 24 Tryz.underlying22 HI.out.1 HI.out.2.1 HI.out.2.2.1 HI.out.2.2.2 rfl (by decide) u9 n1 (flat al) rfl HOWN3.out ⟨b3, off3, none⟩ n3 cap3 (flat ol) rfl (by rw [flat_length, HN3.out]) (fun j u hj => by rw [Addr.add_lit]; exact HS3.out j u hj) (flat_one _) (by unfold maxLen; omega) (by omega) (by omega) ?_; intro v4 w4 hown4 hgr4 hnil4)
      have hB4 := HB3.out.grown hgr4 hsz3 (fun m hm => (HOWN3.out.lt m hm).1)
      go_roundw
      case rel => exact ⟨k + 1, by omega, by go_num, by rw [HT.out, flat_append, List.length_append, HN1.out, HN3.out]; exact hown4, hB4⟩
      case measure => simp [intOf]; omega
    · have hlt' : ¬ (k : Int) < (o.length : Int) := by omega
      have HOP : Hid (IsOps wr u9 (alongL d o)) := by
        show IsOps wr u9 (alongL d o)
        have h1 := isOps_own hown rfl
        rw [List.take_of_length_le (by omega)] at h1
        exact h1
      clear hown
      go_wp2_with fail
      go_ret2
      exact ⟨_, rfl, HOP.out, HB2.out.trans (hbel.mono HB2.out.size)⟩
end Go.Proofs.YtmjjiehnjghndaaGreat
