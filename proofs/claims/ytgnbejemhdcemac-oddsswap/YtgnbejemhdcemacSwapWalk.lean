/-
  PROVED HERE: lanelaw1.OddsSwap returns true, whatever the list of ops and the place; old memory stays as it was.
  Conditions: play.Values' contract (ValuesOk), which the text that speaks of package play proves.
-/
import Derived.Test.YtgnbejemhdcemacSwapVals
import Derived.Test.YtgnbejemhdcemacPlayAsk
import Derived.Test.YtgnbejemhdcemacOddSwap
import Derived.Test.YtgnbejemhdcemacOddSameWalk
import Derived.Test.YtgnbejemhdcemacOddEdgesWalk
import Derived.Test.YtgnbejemhdcemacSame
import Derived.Test.YtgnbejemhdcemacSameEdges
import Derived.Test.YtgnbejemhdcemacSameInts
namespace Go.Proofs.Ytgnbejemhdcemac
open Go.RowKit

theorem edges_few (d : List Op3) : (edgesTo d 36).length ≤ 140737488351 := Nat.le_trans (edgesTo_len d 36) (by omega)

theorem swap_two_at (w : World) : OpsAt (w.alloc (.cells #[.int .i64 1, .int .i64 1, .int .i64 1, .int .i64 2, .int .i64 2, .int .i64 2] 24)) w.heap.size 0 [(1, 1, 1), (2, 2, 2)] := by
  intro i hi
  match i, hi with
  | 0, _ => simp
  | 1, _ => simp
theorem swap_fact (w : World) (b : Nat) (hb : b = w.heap.size) :
    Calls Try.prog 11 #[.slice (some ⟨b, 0, none⟩) 2 2, .int .i64 0] (w.alloc (.cells #[.int .i64 1, .int .i64 1, .int .i64 1, .int .i64 2, .int .i64 2, .int .i64 2] 24)) fun e w' => ∃ b1 o1 c1, e = .returned (.tuple #[.slice (some ⟨b1, o1, none⟩) 2 c1, .nilIface]) ∧ w'.cell? ⟨b1, o1, none⟩ = some (.int .i64 2) ∧ Below w.heap.size w w' := by
  subst hb
  refine (swap_ok [(1, 1, 1), (2, 2, 2)] (.slice (some ⟨w.heap.size, 0, none⟩) 2 2) 0 _ ⟨some ⟨w.heap.size, 0, none⟩, w.heap.size, 0, 2, rfl, fun _ => rfl, fun h => (by cases h), .inl (by simp), swap_two_at w⟩ (by decide +kernel) (by decide) (by decide) (by decide +kernel)).mono ?_
  rintro e w' ⟨v', rfl, hE, hb'⟩
  rw [show swapL [(1, 1, 1), (2, 2, 2)] 0 = [(2, 2, 2), (1, 1, 1)] by decide +kernel] at hE
  obtain ⟨ad, b, off, cap, rfl, ha, _, _, hops⟩ := hE
  obtain rfl := ha (by simp)
  exact ⟨b, off, cap, rfl, by simpa using (hops 0 (by simp)).1, ((Below.refl _ w).alloc (Nat.le_refl _) _).trans (hb'.mono (by simp))⟩

set_option maxHeartbeats 8000000 in
set_option maxRecDepth 100000 in
theorem oswap_no (v : Value) (i : Int) (w : World) (n : Int) (hs : ∀ W, Below w.heap.size w W → Calls Try.prog 11 #[v, .int .i64 i] W fun e w' => e = .returned (.tuple #[.slice none 0 0, .iface 70 (.int .i64 n)]) ∧ Below W.heap.size W w') :
    Calls Try.prog 5 #[v, .int .i64 i] w fun e w' => e = .returned (.bool true) ∧ Below w.heap.size w w' := by
  have HS : Hid (∀ W, Below w.heap.size w W → Calls Try.prog 11 #[v, .int .i64 i] W fun e w' => e = .returned (.tuple #[.slice none 0 0, .iface 70 (.int .i64 n)]) ∧ Below W.heap.size W w') := hs
  clear hs
  go_enter Try.func5, Try.ntmps5
  go_wp2_with fail
  refine (swap_fact _ _ (by simp)).mono ?_
  rintro e w1 ⟨b1, o1, c1, rfl, hc1, hb1⟩
  go_wp2_with fail
  refine (HS.out _ hb1).mono ?_
  rintro e w2 ⟨rfl, hb2⟩
  have hb02 := hb1.trans (hb2.mono hb1.size)
  go_wp2_with fail
  go_ret
  exact ⟨rfl, hb02⟩

set_option maxHeartbeats 8000000 in
set_option maxRecDepth 100000 in
theorem oswap_yes (hV : ValuesOk) (l : List Op3) (v : Value) (i : Nat) (w : World) (hI : IsOps w v l) (hc : (chk l).2 = 0) (hi : i + 1 < l.length) (hne : (opAt l i).1 ≠ (opAt l (i + 1)).1) (ho : oddB (opAt l i) (opAt l (i + 1)) = false) :
    Calls Try.prog 5 #[v, .int .i64 i] w fun e w' => e = .returned (.bool true) ∧ Below w.heap.size w w' := by
  obtain ⟨g, hg⟩ : ∃ g, swapL l i = g := ⟨_, rfl⟩
  have hcg : (chk g).2 = 0 := hg ▸ swap_chk hc hi hne
  have hsame : sameB l g = true := hg ▸ swap_same (fun o h => isOp_deal (chk_ops hc o h)) hi hne ho
  have hedg : edgesTo (doneL g) 36 = edgesTo (doneL l) 36 := hg ▸ swap_edges hc hi ho
  have hval : valsL (doneL g) = valsL (doneL l) := hg ▸ swap_vals hc hi hne ho
  obtain ⟨hk1, hk2, hk3⟩ := swap_back hi
  have hback : swapL g i = l := hg ▸ hk1
  have hgi : i + 1 < g.length := hg ▸ (by rw [swap_len]; exact hi)
  have hgne : (opAt g i).1 ≠ (opAt g (i + 1)).1 := by rw [← hg, hk2, hk3]; exact fun h => hne h.symm
  have hgo : oddB (opAt g i) (opAt g (i + 1)) = false := by rw [← hg, hk2, hk3, odd_sym]; exact ho
  have HI : Hid (∀ W, Below w.heap.size w W → IsOps W v l) := fun W hW => hI.below hW (Nat.le_refl _)
  have HS : Hid (∀ W, Below w.heap.size w W → Calls Try.prog 11 #[v, .int .i64 i] W fun e w' => ∃ v', e = .returned (.tuple #[v', .nilIface]) ∧ IsOps w' v' g ∧ Below W.heap.size W w') := fun W hW => by
    rw [← hg]; exact swap_ok l v i W (HI.out W hW) hc hi hne ho
  have HS2 : Hid (∀ W u, IsOps W u g → Calls Try.prog 11 #[u, .int .i64 i] W fun e w' => ∃ v', e = .returned (.tuple #[v', .nilIface]) ∧ IsOps w' v' l ∧ Below W.heap.size W w') := fun W u hu => by
    have := swap_ok g u i W hu hcg hgi hgne hgo
    rw [hback] at this
    exact this
  have HM : Hid (∀ W u, IsOps W v l → IsOps W u g → Calls Try.prog 10 #[v, u] W fun e w' => e = .returned (.tuple #[.bool true, .nilIface]) ∧ Below W.heap.size W w') := fun W u h1 h2 => by
    have := same_ok l g v u W h1 h2 hc hcg
    rw [hsame] at this
    exact this
  have HE : Hid (∀ W u, IsOps W u l → Calls Try.prog 12 #[u] W fun e w' => ∃ v', e = .returned (.tuple #[v', .nilIface]) ∧ IsEdges w' v' (edgesTo (doneL l) 36) ∧ Below W.heap.size W w') := fun W u h1 => edges_ok l u W h1 hc
  have HE2 : Hid (∀ W u, IsOps W u g → Calls Try.prog 12 #[u] W fun e w' => ∃ v', e = .returned (.tuple #[v', .nilIface]) ∧ IsEdges w' v' (edgesTo (doneL l) 36) ∧ Below W.heap.size W w') := fun W u h1 => by
    have := edges_ok g u W h1 hcg
    rw [hedg] at this
    exact this
  have HV : Hid (∀ W u, IsOps W u l → Calls Try.prog 13 #[u] W fun e w' => ∃ v', e = .returned (.tuple #[v', .nilIface]) ∧ IsInts w' v' (valsL (doneL l)) ∧ Below W.heap.size W w') := fun W u h1 => hV l u W h1 hc
  have HV2 : Hid (∀ W u, IsOps W u g → Calls Try.prog 13 #[u] W fun e w' => ∃ v', e = .returned (.tuple #[v', .nilIface]) ∧ IsInts w' v' (valsL (doneL l)) ∧ Below W.heap.size W w') := fun W u h1 => by
    have := hV g u W h1 hcg
    rw [hval] at this
    exact this
  have HL : Hid (l.length ≤ 140737488351) := Nat.le_trans (chk_len hc) (by omega)
  clear hV hcg hsame hedg hval hk1 hk2 hk3 hback hgi hgne hgo hg hc hi hne ho hI
  go_enter Try.func5, Try.ntmps5
  go_wp2_with fail
  refine (swap_fact _ _ (by simp)).mono ?_
  rintro e w1 ⟨b1, o1, c1, rfl, hc1, hb1⟩
  go_wp2_with fail
  refine (HS.out _ hb1).mono ?_
  rintro e w2 ⟨v2, rfl, hI2, hb2⟩
  have HB2 : Hid (Below w.heap.size w w2) := hb1.trans (hb2.mono hb1.size)
  have HJ2 : Hid (∀ W, Below w2.heap.size w2 W → IsOps W v2 g) := fun W hW => hI2.below hW (Nat.le_refl _)
  clear hb1 hb2 hc1 hI2 HS
  go_wp2_with fail
  refine (HM.out _ _ (HI.out _ HB2.out) (HJ2.out _ (Below.refl _ _))).mono ?_
  rintro e w3 ⟨rfl, hb3⟩
  have HB3 : Hid (Below w2.heap.size w2 w3) := hb3
  clear hb3 HM
  go_wp2_with fail
  refine (HS2.out _ _ (HJ2.out _ HB3.out)).mono ?_
  rintro e w4 ⟨v4, rfl, hI4, hb4⟩
  have HB4 : Hid (Below w2.heap.size w2 w4) := HB3.out.trans (hb4.mono HB3.out.size)
  have HK4 : Hid (∀ W, Below w4.heap.size w4 W → IsOps W v4 l) := fun W hW => hI4.below hW (Nat.le_refl _)
  have HO : Hid (∀ W, Below w2.heap.size w2 W → Below w.heap.size w W) := fun W hW => HB2.out.trans (hW.mono HB2.out.size)
  clear hb4 HS2 hI4 HB3 HB2
  go_wp2_with fail
  refine (HE.out _ _ (HI.out _ (HO.out _ HB4.out))).mono ?_
  rintro e w5 ⟨v5, rfl, hE5, hb5⟩
  have HB5 : Hid (Below w2.heap.size w2 w5) := HB4.out.trans (hb5.mono HB4.out.size)
  have HC5 : Hid (Below w4.heap.size w4 w5) := hb5
  have HE5 : Hid (∀ W, Below w5.heap.size w5 W → IsEdges W v5 (edgesTo (doneL l) 36)) := fun W hW => hE5.below hW (Nat.le_refl _)
  clear hb5 hE5 HE
  go_wp2_with fail
  refine (HE2.out _ _ (HJ2.out _ HB5.out)).mono ?_
  rintro e w6 ⟨v6, rfl, hE6, hb6⟩
  have HB6 : Hid (Below w2.heap.size w2 w6) := HB5.out.trans (hb6.mono HB5.out.size)
  have HC6 : Hid (Below w4.heap.size w4 w6) := HC5.out.trans (hb6.mono HC5.out.size)
  have HD6 : Hid (Below w5.heap.size w5 w6) := hb6
  have HE6 : Hid (∀ W, Below w6.heap.size w6 W → IsEdges W v6 (edgesTo (doneL l) 36)) := fun W hW => hE6.below hW (Nat.le_refl _)
  clear hb6 hE6 HE2 HB5 HC5
  go_wp2_with fail
  refine (HV.out _ _ (HI.out _ (HO.out _ HB6.out))).mono ?_
  rintro e w7 ⟨v7, rfl, hV7, hb7⟩
  have HB7 : Hid (Below w2.heap.size w2 w7) := HB6.out.trans (hb7.mono HB6.out.size)
  have HC7 : Hid (Below w6.heap.size w6 w7) := hb7
  have HV7 : Hid (∀ W, Below w7.heap.size w7 W → IsInts W v7 (valsL (doneL l))) := fun W hW => hV7.below hW (Nat.le_refl _)
  clear hb7 hV7 HV
  go_wp2_with fail
  refine (HV2.out _ _ (HJ2.out _ HB7.out)).mono ?_
  rintro e w8 ⟨v8, rfl, hV8, hb8⟩
  have HB8 : Hid (Below w2.heap.size w2 w8) := HB7.out.trans (hb8.mono HB7.out.size)
  have HC8 : Hid (Below w6.heap.size w6 w8) := HC7.out.trans (hb8.mono HC7.out.size)
  have HD8 : Hid (Below w7.heap.size w7 w8) := hb8
  have HV8 : Hid (∀ W, Below w8.heap.size w8 W → IsInts W v8 (valsL (doneL l))) := fun W hW => hV8.below hW (Nat.le_refl _)
  have HK8 : Hid (Below w4.heap.size w4 w8) := HC6.out.trans (HC8.out.mono HC6.out.size)
  have HE58 : Hid (Below w5.heap.size w5 w8) := HD6.out.trans (HC8.out.mono HD6.out.size)
  clear hb8 hV8 HV2 HC7 HB7 HC6 HD6
  go_wp2_with fail
  refine (same_ops l _ _ _ (HK4.out _ HK8.out) (HI.out _ (HO.out _ HB8.out)) HL.out).mono ?_
  rintro e w9 ⟨rfl, hb9⟩
  have HB9 : Hid (Below w8.heap.size w8 w9) := hb9
  clear hb9
  go_wp2_with fail
  refine (same_edges _ _ _ _ (HE5.out _ (HE58.out.trans (HB9.out.mono HE58.out.size))) (HE6.out _ (HC8.out.trans (HB9.out.mono HC8.out.size))) (edges_few _)).mono ?_
  rintro e w10 ⟨rfl, hb10⟩
  have HB10 : Hid (Below w8.heap.size w8 w10) := HB9.out.trans (hb10.mono HB9.out.size)
  clear hb10
  go_wp2_with fail
  refine (same_ints _ _ _ _ (HV7.out _ (HD8.out.trans (HB10.out.mono HD8.out.size))) (HV8.out _ HB10.out) (vals_few _)).mono ?_
  rintro e w11 ⟨rfl, hb11⟩
  have HB11 : Hid (Below w8.heap.size w8 w11) := HB10.out.trans (hb11.mono HB10.out.size)
  clear hb11
  go_wp2_with fail
  go_ret
  exact ⟨rfl, HO.out _ (HB8.out.trans (HB11.out.mono HB8.out.size))⟩

theorem oswap_walk (hV : ValuesOk) (l : List Op3) (v : Value) (i : Int) (w : World) (hI : IsOps w v l) :
    Calls Try.prog 5 #[v, .int .i64 i] w fun e w' => e = .returned (.bool true) ∧ Below w.heap.size w w' := by
  have HI : ∀ W, Below w.heap.size w W → IsOps W v l := fun W hW => hI.below hW (Nat.le_refl _)
  by_cases hc : (chk l).2 = 0
  · by_cases hr : i < 0 ∨ (l.length : Int) - 1 ≤ i
    · exact oswap_no v i w 1 fun W hW => swap_range l v i W (HI W hW) hc hr
    · obtain ⟨m, rfl⟩ : ∃ m : Nat, i = m := ⟨i.toNat, by omega⟩
      have hm : m + 1 < l.length := by omega
      by_cases hcl : (opAt l m).1 = (opAt l (m + 1)).1 ∨ oddB (opAt l m) (opAt l (m + 1)) = true
      · exact oswap_no v m w 7 fun W hW => swap_clash l v m W (HI W hW) hc hm hcl
      · rw [not_or] at hcl
        exact oswap_yes hV l v m w hI hc hm hcl.1 (by simpa using hcl.2)
  · exact oswap_no v i w _ fun W hW => swap_bad l v i W (HI W hW) hc
end Go.Proofs.Ytgnbejemhdcemac
