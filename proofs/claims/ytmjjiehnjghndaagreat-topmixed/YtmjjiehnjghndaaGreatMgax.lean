/-
  PROVED HERE: lanesame.Ints says yes of two slices that hold the same list of numbers; nothing turns but the count of draws.
  Conditions: none.
  PROVED HERE: lanetop.TopMixed answers true, of any ops and numbers, over whatever keeps MNthC, StrictC, ValuesOk, and what lanetop.one, serial.Order and serial.Serial are asked.
  Conditions: these; the slice is no longer than its capacity.
-/
import Derived.Test.YtmjjiehnjghndaaGreatMgae
import Derived.Deep.QuietTactic
import Derived.BigQuiet
import Derived.WalkSmall
import Derived.Test.YtmjjiehnjghndaaGreatMgal
import Derived.Test.YtmjjiehnjghndaaGreatMgau
import Derived.Test.YtmjjiehnjghndaaGreatMgav
import Derived.Test.YtmjjiehnjghndaaGreatMgaw
import Derived.Deep.Cut
namespace Go.Proofs.YtmjjiehnjghndaaGreat
open Go.RowKit

set_option maxHeartbeats 4000000 in
theorem same_ints (l : List Int) (v u : Value) (w : World) (hv : IsInts w v l) (hu : IsInts w u l) (hlen : l.length ≤ 140737488351) :
    Calls Tryz.prog 10 #[v, u] w fun e w' => e = .returned (.bool true) ∧ Below w.heap.size w w' := by
  have hv' := hv
  have hu' := hu
  obtain ⟨ad, b, off, cap, rfl, ha, _, hbB, hc⟩ := hv
  obtain ⟨ad2, b2, off2, cap2, rfl, ha2, _, hbB2, hc2⟩ := hu
  have H : Hid (∀ k, k < l.length → ad = some ⟨b, off, none⟩ ∧ ad2 = some ⟨b2, off2, none⟩ ∧ b < w.heap.size ∧ b2 < w.heap.size ∧ w.cell? ⟨b, off + k, none⟩ = some (.int .i64 (l.getD k 0)) ∧ w.cell? ⟨b2, off2 + k, none⟩ = some (.int .i64 (l.getD k 0))) := fun k hk => by
    refine ⟨ha (by omega), ha2 (by omega), ?_, ?_, hc k hk, hc2 k hk⟩
    · rcases hbB with h | h
      · exact h
      · subst h; simp at hk
    · rcases hbB2 with h | h
      · exact h
      · subst h; simp at hk
  clear hv' hu' ha ha2 hbB hbB2 hc hc2
  go_enter Tryz.func10, Tryz.ntmps10
  go_wp2
  go_loopw [5] (fun v5 wr => ∃ k : Nat, k ≤ l.length ∧ v5 = .int .i64 k ∧ Below w.heap.size w wr) (fun v5 _ => l.length - (intOf v5).toNat)
  case atStart => exact ⟨0, Nat.zero_le _, rfl, Below.refl _ _⟩
  case round =>
    obtain ⟨k, hk, rfl, hbel⟩ := hrel
    by_cases hlt : k < l.length
    · obtain ⟨e1, e2, h1, h2, c1, c2⟩ := H.out k hlt
      subst e1 e2
      rw [← hbel.cell (p := ⟨b, off + k, none⟩) h1] at c1
      rw [← hbel.cell (p := ⟨b2, off2 + k, none⟩) h2] at c2
      obtain ⟨x, hx⟩ : ∃ x, l.getD k 0 = x := ⟨_, rfl⟩
      rw [hx] at c1 c2
      clear hx H
      go_wp2
      go_quiet (fail)
      go_wp2
      go_roundw
      case rel => exact ⟨k + 1, by omega, by go_num, below_drewN hbel _⟩
      case measure => simp [intOf]; omega
    · go_wp2
      go_ret
      exact ⟨rfl, hbel⟩
end Go.Proofs.YtmjjiehnjghndaaGreat

namespace Go.Proofs.YtmjjiehnjghndaaGreat
open Go.RowKit

def OneM : Prop := ∀ w : World, Calls Tryz.prog 4 #[] w fun e w' => e = .returned (.bool true) ∧ Below w.heap.size w w'
def OrdM : Prop := ∀ (l : List Op3) (o : List Int) (v : Value) (w : World), IsOps w v l → (chk l).2 = 0 → serOrd (doneL l) = some o → Calls Tryz.prog 7 #[v] w fun e w' => ∃ v', e = .returned (.tuple #[v', .nilIface]) ∧ IsInts w' v' o ∧ Below w.heap.size w w'
def SerM : Prop := ∀ (l : List Op3) (o : List Int) (v u : Value) (w : World), IsOps w v l → IsInts w u o → (chk l).2 = 0 → sortI o = dealsL (doneL l) → Calls Tryz.prog 8 #[v, u] w fun e w' => ∃ v', e = .returned (.tuple #[v', .nilIface]) ∧ IsOps w' v' (alongL (doneL l) o) ∧ Below w.heap.size w w'
theorem nth_right {l : List Op3} {k : Int} (h : nthE l k = 0) : (chk (nthL l k)).2 = 0 ∧ (nthL l k).length ≤ 8 := by
  unfold nthE at h
  split at h
  · contradiction
  · rename_i h1
    have hx : mixE l = 0 := by simpa using h1
    split at h
    · cases h
    · rename_i h2
      have hm : mixM l = mixL l := by unfold mixM; rw [if_pos hx]
      obtain ⟨hc, h8⟩ := mixE_zero hx
      have e0 : nthE l k = 0 := by unfold nthE; rw [if_neg (by rw [hx]; decide), if_neg h2]
      have e1 : nthL l k = (mixL l).getD k.toNat [] := by unfold nthL; rw [if_pos e0, hm]
      rw [hm] at h2
      have hlt : k.toNat < (mixL l).length := by omega
      have hmem : nthL l k ∈ mixL l := by rw [e1]; simp [List.getD, List.getElem?_eq_getElem hlt]
      exact ⟨mix_chk hc hmem, by rw [mix_len _ _ _ hmem]; exact h8⟩
/-- Along its order what keeping locks tells comes to the same. -/
theorem vals_along {t : List Op3} {o : List Int} (hc : (chk t).2 = 0) (ho : serOrd (doneL t) = some o) : sortI o = dealsL (doneL t) ∧ (chk (alongL (doneL t) o)).2 = 0 ∧ valsL (doneL (alongL (doneL t) o)) = valsL (doneL t) := by
  have hcd := chk_done hc
  obtain ⟨hso, hcs, hds, hsame, _⟩ := just_some (doing_done hc) hcd ho
  refine ⟨hso, hcs, ?_⟩
  rw [hds]
  exact vals_same (chk_ops hcs) (chk_ops hcd) (same_sight (chk_ops hcs) (chk_ops hcd) hsame)
set_option maxHeartbeats 16000000 in
set_option maxRecDepth 100000 in
theorem tmix_any (hOne : OneM) (hN : MNthC) (hSt : StrictC) (hOr : OrdM) (hSe : SerM) (hV : ValuesOk) (l : List Op3) (ad : Option Addr) (cap : Nat) (k way : Int) (w : World) (hI : IsOps w (.slice ad l.length cap) l) (hcap : l.length ≤ cap) :
    Calls Tryz.prog 3 #[.slice ad l.length cap, .int .i64 k, .int .i64 way] w fun e w' => e = .returned (.bool true) ∧ Below w.heap.size w w' := by
  have HST : Hid (∀ W W', Below w.heap.size w W → Below W.heap.size W W' → Below w.heap.size w W') := fun W W' h1 h2 => h1.trans (h2.mono h1.size)
  have HON := hid_m (hOne w)
  have HNT : Hid (∀ W, Below w.heap.size w W → Calls Tryz.prog 5 #[.slice ad l.length cap, .int .i64 k] W fun e w' => ∃ v', e = .returned (.tuple #[v', errV (nthE l k)]) ∧ IsOps w' v' (nthL l k) ∧ Below W.heap.size W w') := fun W hW => hN l ad cap k W (hI.below hW (Nat.le_refl _)) hcap
  have HRT : Hid (nthE l k = 0 → (chk (nthL l k)).2 = 0 ∧ (nthL l k).length ≤ 8) := nth_right
  have HSR := hid_m hSt
  have HOR := hid_m hOr
  have HSE := hid_m hSe
  have HVV := hid_m hV
  obtain ⟨X, hX⟩ : ∃ X, nthL l k = X := ⟨_, rfl⟩
  obtain ⟨ne, hne⟩ : ∃ n, nthE l k = n := ⟨_, rfl⟩
  rw [hX, hne] at HNT HRT
  obtain ⟨ln, hln⟩ : ∃ n, l.length = n := ⟨_, rfl⟩
  rw [hln] at HNT ⊢
  clear hOne hN hSt hOr hSe hV hI hcap hX hne hln
  go_enter Tryz.func3, Tryz.ntmps3
  go_wp2_with fail
  refine HON.out.mono ?_
  rintro e w1 ⟨rfl, hb1⟩
  have HB1 := hid_m hb1
  clear hb1
  go_wp2_with fail
  refine (HNT.out w1 HB1.out).mono ?_
  rintro e w2 ⟨xv, rfl, hx2, hb2⟩
  have HB2 := hid_m (HST.out _ _ HB1.out hb2)
  have HX2 := hid_m hx2
  obtain ⟨xad, xcap, rfl⟩ : ∃ ad cap, xv = .slice ad X.length cap := by
    obtain ⟨ad, _, _, cap, hv, _⟩ := hx2
    exact ⟨ad, cap, hv⟩
  clear hb2 hx2
  by_cases hn0 : ne = 0
  · subst hn0
    obtain ⟨hc, h8⟩ := HRT.out rfl
    have h0 : errV 0 = .nilIface := rfl
    have HS3 := hid_m (HSR.out X _ way w2 HX2.out)
    obtain ⟨xn, hxn⟩ : ∃ n, X.length = n := ⟨_, rfl⟩
    have HXN := hid_m hxn
    rw [h0]
    rw [hxn] at HS3 ⊢
    have HCX : Hid ((chk X).2 = 0 ∧ X.length ≤ 8) := ⟨hc, h8⟩
    rcases (show way < 0 ∨ (¬ way < 0 ∧ 2 < way) ∨ (¬ way < 0 ∧ ¬ 2 < way) by omega) with hw | ⟨hw, hw2⟩ | ⟨hw, hw2⟩
    · have hu : strictU X way = (([], []), 1) := by unfold strictU; rw [if_neg (by rw [hc]; decide), if_pos (.inl hw)]
      rw [hu] at HS3
      clear hu hc h8 hxn
      go_wp2_with fail
      refine HS3.out.mono ?_
      rintro e w3 ⟨tv, vv, rfl, ht, hv, hb3⟩
      obtain ⟨tad, _, _, tcap, rfl, -⟩ := ht
      obtain ⟨vad, _, _, vcap, rfl, -⟩ := hv
      have HB3 := hid_m (HST.out _ _ HB2.out hb3)
      have h1' : errV 1 = .iface 43 (.int .i64 1) := rfl
      simp only [h1']
      clear hb3
      go_wp2_with fail
      go_ret
      exact ⟨rfl, HB3.out⟩
    · have hu : strictU X way = (([], []), 1) := by unfold strictU; rw [if_neg (by rw [hc]; decide), if_pos (.inr hw2)]
      rw [hu] at HS3
      clear hu hc h8 hxn
      go_wp2_with fail
      refine HS3.out.mono ?_
      rintro e w3 ⟨tv, vv, rfl, ht, hv, hb3⟩
      obtain ⟨tad, _, _, tcap, rfl, -⟩ := ht
      obtain ⟨vad, _, _, vcap, rfl, -⟩ := hv
      have HB3 := hid_m (HST.out _ _ HB2.out hb3)
      have h1' : errV 1 = .iface 43 (.int .i64 1) := rfl
      simp only [h1']
      clear hb3
      go_wp2_with fail
      go_ret
      exact ⟨rfl, HB3.out⟩
    · have hu : strictU X way = (((strictR way X).told, (strictR way X).vict), 0) := by unfold strictU; rw [if_neg (by rw [hc]; decide), if_neg (by omega)]
      obtain ⟨r1, r2, r3, r4⟩ := strict_rig way hc (by omega)
      have hvl := (strictU_len X way).2
      rw [hu] at HS3 hvl
      obtain ⟨t, ht⟩ : ∃ t, (strictR way X).told = t := ⟨_, rfl⟩
      obtain ⟨vs, hvs⟩ : ∃ vs, (strictR way X).vict = vs := ⟨_, rfl⟩
      rw [ht, hvs] at HS3
      rw [ht] at r1 r2 r3 r4
      rw [hvs] at r4 hvl
      obtain ⟨o, ho⟩ := Option.isSome_iff_exists.1 r3
      obtain ⟨q1, q2, q3⟩ := vals_along r1 ho
      have HNV : Hid (∀ i, i < o.length → inB vs (o.getD i 0) = false) := fun i hi => by
        have hm : o.getD i 0 ∈ o := by simp [List.getD, List.getElem?_eq_getElem hi]
        have hd := (order_mem q1).1 hm
        cases hx : inB vs (o.getD i 0) with
        | false => rfl
        | true =>
          unfold inB at hx
          rw [List.contains_iff_mem] at hx
          exact absurd hd (r4 _ hx)
      have HT : Hid ((chk t).2 = 0 ∧ serOrd (doneL t) = some o ∧ sortI o = dealsL (doneL t) ∧ (chk (alongL (doneL t) o)).2 = 0 ∧ valsL (doneL (alongL (doneL t) o)) = valsL (doneL t) ∧ vs.length ≤ 6) := ⟨r1, ho, q1, q2, q3, hvl⟩
      have h00 : errV 0 = .nilIface := rfl
      have hol : o.length ≤ 140737488351 := by
        have h1 : (sortI o).length = o.length := (sort_perm q1).length_eq ▸ (by rw [q1])
        have h2 := dealsTo_len (doneL t) 6
        have h3 : o.length = (dealsL (doneL t)).length := by rw [← q1]; exact h1.symm
        unfold dealsL at h3
        omega
      clear hu hc h8 hxn r1 r2 r3 r4 ht hvs ho q1 q2 q3 hvl HRT HCX HSR
      go_wp2_with fail
      refine HS3.out.mono ?_
      rintro e w3 ⟨tv, vv, rfl, ht3, hv3, hb3⟩
      have HB3 := hid_m (HST.out _ _ HB2.out hb3)
      have HT3 : Hid (∀ V, Below w3.heap.size w3 V → IsOps V tv t) := fun V hV => ht3.below hV (Nat.le_refl _)
      have HV3 : Hid (∀ V, Below w3.heap.size w3 V → IsInts V vv vs) := fun V hV => hv3.below hV (Nat.le_refl _)
      have HOO : Hid (∀ V, Below w3.heap.size w3 V → Calls Tryz.prog 7 #[tv] V fun e w' => ∃ v', e = .returned (.tuple #[v', .nilIface]) ∧ IsInts w' v' o ∧ Below V.heap.size V w') := fun V hV => HOR.out t o tv V (HT3.out V hV) HT.out.1 HT.out.2.1
      have HSO : Hid (∀ V u, Below w3.heap.size w3 V → IsInts V u o → Calls Tryz.prog 8 #[tv, u] V fun e w' => ∃ v', e = .returned (.tuple #[v', .nilIface]) ∧ IsOps w' v' (alongL (doneL t) o) ∧ Below V.heap.size V w') := fun V u hV hu => HSE.out t o tv u V (HT3.out V hV) hu HT.out.1 HT.out.2.2.1
      have HV1 : Hid (∀ V, Below w3.heap.size w3 V → Calls Tryz.prog 9 #[tv] V fun e w' => ∃ v', e = .returned (.tuple #[v', .nilIface]) ∧ IsInts w' v' (valsL (doneL t)) ∧ Below V.heap.size V w') := fun V hV => HVV.out t tv V (HT3.out V hV) HT.out.1
      have HV2 : Hid (∀ V u, IsOps V u (alongL (doneL t) o) → Calls Tryz.prog 9 #[u] V fun e w' => ∃ v', e = .returned (.tuple #[v', .nilIface]) ∧ IsInts w' v' (valsL (doneL t)) ∧ Below V.heap.size V w') := fun V u hu => by
        have := HVV.out _ u V hu HT.out.2.2.2.1
        rw [HT.out.2.2.2.2.1] at this
        exact this
      have HIN : Hid (∀ V i, Below w3.heap.size w3 V → i < o.length → Calls Tryz.prog 11 #[vv, .int .i64 (o.getD i 0)] V fun e w' => e = .returned (.bool false) ∧ w' = V) := fun V i hV hi => by
        have := in_any vs vv (o.getD i 0) V (HV3.out V hV) (by have := HT.out.2.2.2.2.2; omega)
        rw [HNV.out i hi] at this
        exact this
      obtain ⟨tad, _, _, tcap, rfl, -⟩ := ht3
      obtain ⟨vad, _, _, vcap, rfl, -⟩ := hv3
      simp only [h00]
      clear hb3 HOR HSE HVV HT HNV
      go_wp2_with fail
      refine (HOO.out w3 (Below.refl _ _)).mono ?_
      rintro e w4 ⟨ov, rfl, ho4, hb4⟩
      have HW4 := hid_m hb4
      have HO4 := hid_m ho4
      obtain ⟨oad, ob, ooff, ocap, rfl, -⟩ := ho4
      have HC4 := hid_m (HSO.out w4 _ HW4.out HO4.out)
      clear hb4
      go_wp2_with fail
      refine HC4.out.mono ?_
      rintro e w5 ⟨sv, rfl, hs5, hb5⟩
      have HW5 := hid_m (HW4.out.trans (hb5.mono HW4.out.size))
      have HO5 := hid_m (HO4.out.below hb5 (Nat.le_refl _))
      have HS5 := hid_m hs5
      obtain ⟨sad, _, _, scap, rfl, -⟩ := hs5
      have HC5 := hid_m (HV1.out w5 HW5.out)
      clear hb5 HC4
      go_wp2_with fail
      refine HC5.out.mono ?_
      rintro e w6 ⟨av, rfl, ha6, hb6⟩
      have HW6 := hid_m (HW5.out.trans (hb6.mono HW5.out.size))
      have HO6 := hid_m (HO5.out.below hb6 (Nat.le_refl _))
      have HA6 := hid_m ha6
      have HC6 := hid_m (HV2.out w6 _ (HS5.out.below hb6 (Nat.le_refl _)))
      obtain ⟨aad, _, _, acap, rfl, -⟩ := ha6
      clear hb6 HC5
      go_wp2_with fail
      refine HC6.out.mono ?_
      rintro e w7 ⟨bv, rfl, hb7v, hb7⟩
      have HW7 := hid_m (HW6.out.trans (hb7.mono HW6.out.size))
      have HO7 := hid_m (HO6.out.below hb7 (Nat.le_refl _))
      have HC7 := hid_m (same_ints _ _ _ w7 (HA6.out.below hb7 (Nat.le_refl _)) hb7v (vals_few _))
      obtain ⟨bad, _, _, bcap, rfl, -⟩ := hb7v
      clear hb7 HC6
      go_wp2_with fail
      refine HC7.out.mono ?_
      rintro e w8 ⟨rfl, hb8⟩
      have HW8 := hid_m (HW7.out.trans (hb8.mono HW7.out.size))
      have HO8 : Hid (∀ V, Below w8.heap.size w8 V → IsInts V (.slice oad o.length ocap) o) := fun V hV => (HO7.out.below hb8 (Nat.le_refl _)).below hV (Nat.le_refl _)
      clear hb8 HC7
      go_wp2_with fail
      go_loopw [20, 21] (fun v20 _ V => ∃ i : Nat, i ≤ o.length ∧ v20 = .int .i64 i ∧ Below w8.heap.size w8 V) (fun v20 _ _ => o.length - (intOf v20).toNat)
      case atStart => exact ⟨0, Nat.zero_le _, rfl, Below.refl _ _⟩
      case round =>
        obtain ⟨i, hi, rfl, hbel⟩ := hrel
        have HBE := hid_m hbel
        have HW9 := hid_m (HW8.out.trans (hbel.mono HW8.out.size))
        clear hbel
        by_cases hlt : i < o.length
        · have hlt' : (i : Int) < (o.length : Int) := by omega
          have HC9 := hid_m (HIN.out wr i HW9.out hlt)
          obtain ⟨ad', b', off', cap', hv', ha', -, -, hc'⟩ := HO8.out wr HBE.out
          simp only [Value.slice.injEq] at hv'
          obtain ⟨rfl, -, rfl⟩ := hv'
          obtain rfl := ha' (by omega)
          have c0 := hc' i hlt
          obtain ⟨x, hx⟩ : ∃ x, o.getD i 0 = x := ⟨_, rfl⟩
          rw [hx] at c0 HC9
          clear hx ha' hc' HO8
          go_wp2_with fail
          refine HC9.out.mono ?_
          rintro e w9 ⟨rfl, rfl⟩
          go_wp2_with fail
          go_roundw
          case rel => exact ⟨i + 1, by omega, by go_num, HBE.out⟩
          case measure => simp [intOf]; omega
        · have hlt' : ¬ (i : Int) < (o.length : Int) := by omega
          go_wp2_with fail
          go_ret
          exact ⟨rfl, HST.out _ _ HB3.out HW9.out⟩
  · have he : errV ne = .iface 43 (.int .i64 ne) := by unfold errV; rw [if_neg hn0]
    rw [he]
    go_wp2_with fail
    go_ret
    exact ⟨rfl, HB2.out⟩
end Go.Proofs.YtmjjiehnjghndaaGreat
