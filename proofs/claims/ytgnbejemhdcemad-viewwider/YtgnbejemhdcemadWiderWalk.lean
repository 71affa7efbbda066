/-
  PROVED HERE: lanelaw1.ViewWider returns true, whatever the two lists of ops; old memory stays as it was.
  Conditions: play.Values' contract (ValuesOk), which the text that speaks of package play proves.
-/
import Derived.Test.YtgnbejemhdcemadWider2Plain
import Derived.Test.YtgnbejemhdcemadPlayAsk
import Derived.Test.YtgnbejemhdcemadViewReads
import Derived.Test.YtgnbejemhdcemadViewOrder
import Derived.Test.YtgnbejemhdcemadLooks
import Derived.Test.YtgnbejemhdcemadSerOrder
import Derived.Test.YtgnbejemhdcemadSerNs
import Derived.Test.YtgnbejemhdcemadSames
namespace Go.Proofs.Ytgnbejemhdcemad
open Go.RowKit

theorem wider_four_at (w : World) : OpsAt (w.alloc (.cells #[.int .i64 2, .int .i64 2, .int .i64 1, .int .i64 1, .int .i64 1, .int .i64 1, .int .i64 1, .int .i64 3, .int .i64 0, .int .i64 2, .int .i64 3, .int .i64 0] 24)) w.heap.size 0 [(2, 2, 1), (1, 1, 1), (1, 3, 0), (2, 3, 0)] := by
  intro i hi
  match i, hi with
  | 0, _ => simp
  | 1, _ => simp
  | 2, _ => simp
  | 3, _ => simp
theorem wider_fact (w : World) (b : Nat) (hb : b = w.heap.size) :
    Calls Try.prog 7 #[.slice (some ⟨b, 0, none⟩) 4 4] (w.alloc (.cells #[.int .i64 2, .int .i64 2, .int .i64 1, .int .i64 1, .int .i64 1, .int .i64 1, .int .i64 1, .int .i64 3, .int .i64 0, .int .i64 2, .int .i64 3, .int .i64 0] 24)) fun e w' => ∃ b1 o1 c1, e = .returned (.tuple #[.slice (some ⟨b1, o1, none⟩) 1 c1, .nilIface]) ∧ w'.cell? ⟨b1, o1, none⟩ = some (.int .i64 1) ∧ w'.cell? ⟨b1, o1 + 1, none⟩ = some (.int .i64 2) ∧ Below w.heap.size w w' := by
  subst hb
  refine (vreads_ok [(2, 2, 1), (1, 1, 1), (1, 3, 0), (2, 3, 0)] (.slice (some ⟨w.heap.size, 0, none⟩) 4 4) _ ⟨some ⟨w.heap.size, 0, none⟩, w.heap.size, 0, 4, rfl, fun _ => rfl, fun h => (by cases h), .inl (by simp), wider_four_at w⟩ (by decide +kernel)).mono ?_
  rintro e w' ⟨v', rfl, hE, hb'⟩
  rw [show readsTo (doneL [(2, 2, 1), (1, 1, 1), (1, 3, 0), (2, 3, 0)]) (doneL [(2, 2, 1), (1, 1, 1), (1, 3, 0), (2, 3, 0)]).length = [(1, 2)] by decide +kernel] at hE
  obtain ⟨ad, b, off, cap, rfl, ha, _, _, hops⟩ := hE
  obtain rfl := ha (by simp)
  have h0 := hops 0 (by simp)
  exact ⟨b, off, cap, rfl, by simpa using h0.1, by simpa using h0.2, ((Below.refl _ w).alloc (Nat.le_refl _) _).trans (hb'.mono (by simp))⟩

/-- What both kinds of Same answer of two lists, and what comes of them where they look the same. -/
def WTail (v u : Value) (w : World) : Prop := ∃ (a b : Bool) (ea eb : Value), (∀ W, Below w.heap.size w W → Calls Try.prog 14 #[v, u] W fun e w' => e = .returned (.tuple #[.bool a, ea]) ∧ Below W.heap.size W w') ∧
  (∀ W, Below w.heap.size w W → Calls Try.prog 11 #[v, u] W fun e w' => e = .returned (.tuple #[.bool b, eb]) ∧ Below W.heap.size W w') ∧
  ((∃ n m : Int, ea = .iface 75 (.int .i64 n) ∧ eb = .iface 75 (.int .i64 m)) ∨ (ea = .nilIface ∧ eb = .nilIface ∧ b = false ∧ a = false) ∨
    (ea = .nilIface ∧ eb = .nilIface ∧ b = true ∧ ∃ d : List Op3, (∀ W, Below w.heap.size w W → Calls Try.prog 12 #[v] W fun e w' => ∃ v', e = .returned (.tuple #[v', .nilIface]) ∧ IsInts w' v' (valsL d) ∧ Below W.heap.size W w') ∧
      (∀ W, Below w.heap.size w W → Calls Try.prog 12 #[u] W fun e w' => ∃ v', e = .returned (.tuple #[v', .nilIface]) ∧ IsInts w' v' (valsL d) ∧ Below W.heap.size W w')))
theorem wtail (hV : ValuesOk) (h g : List Op3) (v u : Value) (w : World) (hI : IsOps w v h) (hJ : IsOps w u g) : WTail v u w := by
  have HI : ∀ W, Below w.heap.size w W → IsOps W v h := fun W hW => hI.below hW (Nat.le_refl _)
  have HJ : ∀ W, Below w.heap.size w W → IsOps W u g := fun W hW => hJ.below hW (Nat.le_refl _)
  by_cases hc : (chk h).2 = 0
  · by_cases hd : (chk g).2 = 0
    · refine ⟨_, _, _, _, fun W hW => same_ok h g v u W (HI W hW) (HJ W hW) hc hd, fun W hW => vsame_ok h g v u W (HI W hW) (HJ W hW) hc hd, .inr ?_⟩
      cases hb : sightB (doneL h) (doneL g) with
      | false =>
        refine .inl ⟨rfl, rfl, rfl, ?_⟩
        cases ha : sameB h g with
        | false => rfl
        | true => rw [same_sight_done (chk_ops hc) (chk_ops hd) ha] at hb; cases hb
      | true =>
        refine .inr ⟨rfl, rfl, rfl, doneL h, fun W hW => hV h v W (HI W hW) hc, fun W hW => ?_⟩
        rw [vals_same (chk_ops (chk_done hc)) (chk_ops (chk_done hd)) hb]
        exact hV g u W (HJ W hW) hd
    · exact ⟨_, _, _, _, fun W hW => same_bad2 h g v u W (HI W hW) (HJ W hW) hc hd, fun W hW => vsame_bad2 h g v u W (HI W hW) (HJ W hW) hc hd, .inl ⟨_, _, rfl, rfl⟩⟩
  · exact ⟨_, _, _, _, fun W hW => same_bad h v u W (HI W hW) hc, fun W hW => vsame_bad h v u W (HI W hW) hc, .inl ⟨_, _, rfl, rfl⟩⟩

set_option maxHeartbeats 8000000 in
set_option maxRecDepth 100000 in
theorem wider_skip (v u : Value) (w : World) (n m : Int) (hO : ∀ W, Below w.heap.size w W → Calls Try.prog 8 #[v] W fun e w' => e = .returned (.tuple #[.slice none 0 0, .iface 75 (.int .i64 n)]) ∧ Below W.heap.size W w')
    (hL : ∀ W, Below w.heap.size w W → Calls Try.prog 9 #[v] W fun e w' => e = .returned (.tuple #[.slice none 0 0, .iface 75 (.int .i64 m)]) ∧ Below W.heap.size W w') (hT : WTail v u w) :
    Calls Try.prog 3 #[v, u] w fun e w' => e = .returned (.bool true) ∧ Below w.heap.size w w' := by
  have HO : Hid (∀ W, Below w.heap.size w W → Calls Try.prog 8 #[v] W fun e w' => e = .returned (.tuple #[.slice none 0 0, .iface 75 (.int .i64 n)]) ∧ Below W.heap.size W w') := hO
  have HL : Hid (∀ W, Below w.heap.size w W → Calls Try.prog 9 #[v] W fun e w' => e = .returned (.tuple #[.slice none 0 0, .iface 75 (.int .i64 m)]) ∧ Below W.heap.size W w') := hL
  have HT : Hid (WTail v u w) := hT
  clear hO hL hT
  go_enter Try.func3, Try.ntmps3
  go_wp2_with fail
  refine (wider_fact _ _ (by simp)).mono ?_
  rintro e w1 ⟨b1, o1, c1, rfl, hc1, hc2, hb1⟩
  go_wp2_with fail
  refine (HO.out _ hb1).mono ?_
  rintro e w2 ⟨rfl, hb2⟩
  have HB2 : Hid (Below w.heap.size w w2) := hb1.trans (hb2.mono hb1.size)
  clear hb1 hb2 hc1 hc2 HO
  go_wp2_with fail
  refine (HL.out _ HB2.out).mono ?_
  rintro e w3 ⟨rfl, hb3⟩
  have HB3 : Hid (Below w.heap.size w w3) := HB2.out.trans (hb3.mono HB2.out.size)
  clear hb3 HB2 HL
  obtain ⟨a, b, ea, eb, hA, hB, hor⟩ := HT.out
  have HA : Hid (∀ W, Below w.heap.size w W → Calls Try.prog 14 #[v, u] W fun e w' => e = .returned (.tuple #[.bool a, ea]) ∧ Below W.heap.size W w') := hA
  have HBV : Hid (∀ W, Below w.heap.size w W → Calls Try.prog 11 #[v, u] W fun e w' => e = .returned (.tuple #[.bool b, eb]) ∧ Below W.heap.size W w') := hB
  clear hA hB HT
  go_wp2_with fail
  refine (HA.out _ HB3.out).mono ?_
  rintro e wa ⟨rfl, hba⟩
  have HBA : Hid (Below w.heap.size w wa) := HB3.out.trans (hba.mono HB3.out.size)
  clear hba HA HB3
  go_wp2_with fail
  refine (HBV.out _ HBA.out).mono ?_
  rintro e wb ⟨rfl, hbb⟩
  have HBB : Hid (Below w.heap.size w wb) := HBA.out.trans (hbb.mono HBA.out.size)
  clear hbb HBV HBA
  rcases hor with ⟨n, m, rfl, rfl⟩ | ⟨rfl, rfl, rfl, rfl⟩ | ⟨rfl, rfl, rfl, d, hv, hu⟩
  · go_wp2_with fail
    go_ret
    exact ⟨rfl, HBB.out⟩
  · go_wp2_with fail
    go_ret
    exact ⟨rfl, HBB.out⟩
  · have HV : Hid (∀ W, Below w.heap.size w W → Calls Try.prog 12 #[v] W fun e w' => ∃ v', e = .returned (.tuple #[v', .nilIface]) ∧ IsInts w' v' (valsL d) ∧ Below W.heap.size W w') := hv
    have HU : Hid (∀ W, Below w.heap.size w W → Calls Try.prog 12 #[u] W fun e w' => ∃ v', e = .returned (.tuple #[v', .nilIface]) ∧ IsInts w' v' (valsL d) ∧ Below W.heap.size W w') := hu
    clear hv hu
    go_wp2_with fail
    refine (HV.out _ HBB.out).mono ?_
    rintro e wc ⟨vc, rfl, hIc, hbc⟩
    have HBC : Hid (Below w.heap.size w wc) := HBB.out.trans (hbc.mono HBB.out.size)
    have HIC : Hid (∀ W, Below wc.heap.size wc W → IsInts W vc (valsL d)) := fun W hW => hIc.below hW (Nat.le_refl _)
    clear hbc hIc HV HBB
    go_wp2_with fail
    refine (HU.out _ HBC.out).mono ?_
    rintro e wd ⟨vd, rfl, hId, hbd⟩
    have HBD : Hid (Below w.heap.size w wd) := HBC.out.trans (hbd.mono HBC.out.size)
    have HID : Hid (IsInts wd vd (valsL d)) := hId
    have HIC' : Hid (IsInts wd vc (valsL d)) := HIC.out _ hbd
    clear hbd hId HU HBC HIC
    go_wp2_with fail
    refine (same_ints _ _ _ _ HIC'.out HID.out (vals_few _)).mono ?_
    rintro e we ⟨rfl, hbe⟩
    have HBE : Hid (Below w.heap.size w we) := HBD.out.trans (hbe.mono HBD.out.size)
    clear hbe HBD
    go_wp2_with fail
    go_ret
    exact ⟨rfl, HBE.out⟩

set_option maxHeartbeats 8000000 in
set_option maxRecDepth 100000 in
theorem wider_nil (v u : Value) (w : World) (r : List Int) (s d : List Op3) (hO : ∀ W, Below w.heap.size w W → Calls Try.prog 8 #[v] W fun e w' => ∃ v', e = .returned (.tuple #[v', .nilIface]) ∧ Below W.heap.size W w')
    (hL : ∀ W, Below w.heap.size w W → Calls Try.prog 9 #[v] W fun e w' => ∃ v', e = .returned (.tuple #[v', .nilIface]) ∧ IsInts w' v' r ∧ Below W.heap.size W w')
    (hS : ∀ W x, Below w.heap.size w W → IsInts W x r → Calls Try.prog 10 #[v, x] W fun e w' => ∃ v', e = .returned (.tuple #[v', .nilIface]) ∧ IsOps w' v' s ∧ Below W.heap.size W w')
    (hM : ∀ W x, Below w.heap.size w W → IsOps W x s → Calls Try.prog 11 #[v, x] W fun e w' => e = .returned (.tuple #[.bool true, .nilIface]) ∧ Below W.heap.size W w')
    (hV : ∀ W, Below w.heap.size w W → Calls Try.prog 12 #[v] W fun e w' => ∃ v', e = .returned (.tuple #[v', .nilIface]) ∧ IsInts w' v' (valsL d) ∧ Below W.heap.size W w')
    (hV2 : ∀ W x, IsOps W x s → Calls Try.prog 12 #[x] W fun e w' => ∃ v', e = .returned (.tuple #[v', .nilIface]) ∧ IsInts w' v' (valsL d) ∧ Below W.heap.size W w') (hT : WTail v u w) :
    Calls Try.prog 3 #[v, u] w fun e w' => e = .returned (.bool true) ∧ Below w.heap.size w w' := by
  have HO : Hid (∀ W, Below w.heap.size w W → Calls Try.prog 8 #[v] W fun e w' => ∃ v', e = .returned (.tuple #[v', .nilIface]) ∧ Below W.heap.size W w') := hO
  have HL : Hid (∀ W, Below w.heap.size w W → Calls Try.prog 9 #[v] W fun e w' => ∃ v', e = .returned (.tuple #[v', .nilIface]) ∧ IsInts w' v' r ∧ Below W.heap.size W w') := hL
  have HS : Hid (∀ W x, Below w.heap.size w W → IsInts W x r → Calls Try.prog 10 #[v, x] W fun e w' => ∃ v', e = .returned (.tuple #[v', .nilIface]) ∧ IsOps w' v' s ∧ Below W.heap.size W w') := hS
  have HM : Hid (∀ W x, Below w.heap.size w W → IsOps W x s → Calls Try.prog 11 #[v, x] W fun e w' => e = .returned (.tuple #[.bool true, .nilIface]) ∧ Below W.heap.size W w') := hM
  have HW : Hid (∀ W, Below w.heap.size w W → Calls Try.prog 12 #[v] W fun e w' => ∃ v', e = .returned (.tuple #[v', .nilIface]) ∧ IsInts w' v' (valsL d) ∧ Below W.heap.size W w') := hV
  have HW2 : Hid (∀ W x, IsOps W x s → Calls Try.prog 12 #[x] W fun e w' => ∃ v', e = .returned (.tuple #[v', .nilIface]) ∧ IsInts w' v' (valsL d) ∧ Below W.heap.size W w') := hV2
  have HT : Hid (WTail v u w) := hT
  clear hO hL hS hM hV hV2 hT
  go_enter Try.func3, Try.ntmps3
  go_wp2_with fail
  refine (wider_fact _ _ (by simp)).mono ?_
  rintro e w1 ⟨b1, o1, c1, rfl, hc1, hc2, hb1⟩
  go_wp2_with fail
  refine (HO.out _ hb1).mono ?_
  rintro e w2 ⟨v2, rfl, hb2⟩
  have HB2 : Hid (Below w.heap.size w w2) := hb1.trans (hb2.mono hb1.size)
  clear hb1 hb2 hc1 hc2 HO
  go_wp2_with fail
  refine (HL.out _ HB2.out).mono ?_
  rintro e w3 ⟨v3, rfl, hI3, hb3⟩
  have HB3 : Hid (Below w.heap.size w w3) := HB2.out.trans (hb3.mono HB2.out.size)
  have HI3 : Hid (IsInts w3 v3 r) := hI3
  clear hb3 HB2 HL hI3
  go_wp2_with fail
  refine (HS.out _ _ HB3.out HI3.out).mono ?_
  rintro e w4 ⟨v4, rfl, hI4, hb4⟩
  have HB4 : Hid (Below w.heap.size w w4) := HB3.out.trans (hb4.mono HB3.out.size)
  have HI4 : Hid (∀ W, Below w4.heap.size w4 W → IsOps W v4 s) := fun W hW => hI4.below hW (Nat.le_refl _)
  clear hb4 HB3 HS hI4 HI3
  go_wp2_with fail
  refine (HM.out _ _ HB4.out (HI4.out _ (Below.refl _ _))).mono ?_
  rintro e w5 ⟨rfl, hb5⟩
  have HB5 : Hid (Below w.heap.size w w5) := HB4.out.trans (hb5.mono HB4.out.size)
  have HC5 : Hid (Below w4.heap.size w4 w5) := hb5
  clear hb5 HM
  go_wp2_with fail
  refine (HW.out _ HB5.out).mono ?_
  rintro e w6 ⟨v6, rfl, hI6, hb6⟩
  have HB6 : Hid (Below w.heap.size w w6) := HB5.out.trans (hb6.mono HB5.out.size)
  have HC6 : Hid (Below w4.heap.size w4 w6) := HC5.out.trans (hb6.mono HC5.out.size)
  have HI6 : Hid (∀ W, Below w6.heap.size w6 W → IsInts W v6 (valsL d)) := fun W hW => hI6.below hW (Nat.le_refl _)
  clear hb6 hI6 HW HB5 HC5 HB4
  go_wp2_with fail
  refine (HW2.out _ _ (HI4.out _ HC6.out)).mono ?_
  rintro e w7 ⟨v7, rfl, hI7, hb7⟩
  have HB7 : Hid (Below w.heap.size w w7) := HB6.out.trans (hb7.mono HB6.out.size)
  have HI7 : Hid (IsInts w7 v7 (valsL d)) := hI7
  have HI6' : Hid (IsInts w7 v6 (valsL d)) := HI6.out _ hb7
  clear hb7 hI7 HW2 HB6 HC6 HI6 HI4
  go_wp2_with fail
  refine (same_ints _ _ _ _ HI6'.out HI7.out (vals_few _)).mono ?_
  rintro e w8 ⟨rfl, hb8⟩
  have HB8 : Hid (Below w.heap.size w w8) := HB7.out.trans (hb8.mono HB7.out.size)
  clear hb8 HB7 HI6' HI7
  obtain ⟨a, b, ea, eb, hA, hB, hor⟩ := HT.out
  have HA : Hid (∀ W, Below w.heap.size w W → Calls Try.prog 14 #[v, u] W fun e w' => e = .returned (.tuple #[.bool a, ea]) ∧ Below W.heap.size W w') := hA
  have HBV : Hid (∀ W, Below w.heap.size w W → Calls Try.prog 11 #[v, u] W fun e w' => e = .returned (.tuple #[.bool b, eb]) ∧ Below W.heap.size W w') := hB
  clear hA hB HT
  go_wp2_with fail
  refine (HA.out _ HB8.out).mono ?_
  rintro e wa ⟨rfl, hba⟩
  have HBA : Hid (Below w.heap.size w wa) := HB8.out.trans (hba.mono HB8.out.size)
  clear hba HA HB8
  go_wp2_with fail
  refine (HBV.out _ HBA.out).mono ?_
  rintro e wb ⟨rfl, hbb⟩
  have HBB : Hid (Below w.heap.size w wb) := HBA.out.trans (hbb.mono HBA.out.size)
  clear hbb HBV HBA
  rcases hor with ⟨n, m, rfl, rfl⟩ | ⟨rfl, rfl, rfl, rfl⟩ | ⟨rfl, rfl, rfl, d, hv, hu⟩
  · go_wp2_with fail
    go_ret
    exact ⟨rfl, HBB.out⟩
  · go_wp2_with fail
    go_ret
    exact ⟨rfl, HBB.out⟩
  · have HV : Hid (∀ W, Below w.heap.size w W → Calls Try.prog 12 #[v] W fun e w' => ∃ v', e = .returned (.tuple #[v', .nilIface]) ∧ IsInts w' v' (valsL d) ∧ Below W.heap.size W w') := hv
    have HU : Hid (∀ W, Below w.heap.size w W → Calls Try.prog 12 #[u] W fun e w' => ∃ v', e = .returned (.tuple #[v', .nilIface]) ∧ IsInts w' v' (valsL d) ∧ Below W.heap.size W w') := hu
    clear hv hu
    go_wp2_with fail
    refine (HV.out _ HBB.out).mono ?_
    rintro e wc ⟨vc, rfl, hIc, hbc⟩
    have HBC : Hid (Below w.heap.size w wc) := HBB.out.trans (hbc.mono HBB.out.size)
    have HIC : Hid (∀ W, Below wc.heap.size wc W → IsInts W vc (valsL d)) := fun W hW => hIc.below hW (Nat.le_refl _)
    clear hbc hIc HV HBB
    go_wp2_with fail
    refine (HU.out _ HBC.out).mono ?_
    rintro e wd ⟨vd, rfl, hId, hbd⟩
    have HBD : Hid (Below w.heap.size w wd) := HBC.out.trans (hbd.mono HBC.out.size)
    have HID : Hid (IsInts wd vd (valsL d)) := hId
    have HIC' : Hid (IsInts wd vc (valsL d)) := HIC.out _ hbd
    clear hbd hId HU HBC HIC
    go_wp2_with fail
    refine (same_ints _ _ _ _ HIC'.out HID.out (vals_few _)).mono ?_
    rintro e we ⟨rfl, hbe⟩
    have HBE : Hid (Below w.heap.size w we) := HBD.out.trans (hbe.mono HBD.out.size)
    clear hbe HBD
    go_wp2_with fail
    go_ret
    exact ⟨rfl, HBE.out⟩

set_option maxHeartbeats 8000000 in
set_option maxRecDepth 100000 in
theorem wider_err (v u : Value) (w : World) (r : List Int) (s d : List Op3) (hO : ∀ W, Below w.heap.size w W → Calls Try.prog 8 #[v] W fun e w' => e = .returned (.tuple #[.slice none 0 0, .iface 75 (.int .i64 8)]) ∧ Below W.heap.size W w')
    (hL : ∀ W, Below w.heap.size w W → Calls Try.prog 9 #[v] W fun e w' => ∃ v', e = .returned (.tuple #[v', .nilIface]) ∧ IsInts w' v' r ∧ Below W.heap.size W w')
    (hS : ∀ W x, Below w.heap.size w W → IsInts W x r → Calls Try.prog 10 #[v, x] W fun e w' => ∃ v', e = .returned (.tuple #[v', .nilIface]) ∧ IsOps w' v' s ∧ Below W.heap.size W w')
    (hM : ∀ W x, Below w.heap.size w W → IsOps W x s → Calls Try.prog 11 #[v, x] W fun e w' => e = .returned (.tuple #[.bool true, .nilIface]) ∧ Below W.heap.size W w')
    (hV : ∀ W, Below w.heap.size w W → Calls Try.prog 12 #[v] W fun e w' => ∃ v', e = .returned (.tuple #[v', .nilIface]) ∧ IsInts w' v' (valsL d) ∧ Below W.heap.size W w')
    (hV2 : ∀ W x, IsOps W x s → Calls Try.prog 12 #[x] W fun e w' => ∃ v', e = .returned (.tuple #[v', .nilIface]) ∧ IsInts w' v' (valsL d) ∧ Below W.heap.size W w') (hT : WTail v u w) :
    Calls Try.prog 3 #[v, u] w fun e w' => e = .returned (.bool true) ∧ Below w.heap.size w w' := by
  have HO : Hid (∀ W, Below w.heap.size w W → Calls Try.prog 8 #[v] W fun e w' => e = .returned (.tuple #[.slice none 0 0, .iface 75 (.int .i64 8)]) ∧ Below W.heap.size W w') := hO
  have HL : Hid (∀ W, Below w.heap.size w W → Calls Try.prog 9 #[v] W fun e w' => ∃ v', e = .returned (.tuple #[v', .nilIface]) ∧ IsInts w' v' r ∧ Below W.heap.size W w') := hL
  have HS : Hid (∀ W x, Below w.heap.size w W → IsInts W x r → Calls Try.prog 10 #[v, x] W fun e w' => ∃ v', e = .returned (.tuple #[v', .nilIface]) ∧ IsOps w' v' s ∧ Below W.heap.size W w') := hS
  have HM : Hid (∀ W x, Below w.heap.size w W → IsOps W x s → Calls Try.prog 11 #[v, x] W fun e w' => e = .returned (.tuple #[.bool true, .nilIface]) ∧ Below W.heap.size W w') := hM
  have HW : Hid (∀ W, Below w.heap.size w W → Calls Try.prog 12 #[v] W fun e w' => ∃ v', e = .returned (.tuple #[v', .nilIface]) ∧ IsInts w' v' (valsL d) ∧ Below W.heap.size W w') := hV
  have HW2 : Hid (∀ W x, IsOps W x s → Calls Try.prog 12 #[x] W fun e w' => ∃ v', e = .returned (.tuple #[v', .nilIface]) ∧ IsInts w' v' (valsL d) ∧ Below W.heap.size W w') := hV2
  have HT : Hid (WTail v u w) := hT
  clear hO hL hS hM hV hV2 hT
  go_enter Try.func3, Try.ntmps3
  go_wp2_with fail
  refine (wider_fact _ _ (by simp)).mono ?_
  rintro e w1 ⟨b1, o1, c1, rfl, hc1, hc2, hb1⟩
  go_wp2_with fail
  refine (HO.out _ hb1).mono ?_
  rintro e w2 ⟨rfl, hb2⟩
  have HB2 : Hid (Below w.heap.size w w2) := hb1.trans (hb2.mono hb1.size)
  clear hb1 hb2 hc1 hc2 HO
  go_wp2_with fail
  refine (HL.out _ HB2.out).mono ?_
  rintro e w3 ⟨v3, rfl, hI3, hb3⟩
  have HB3 : Hid (Below w.heap.size w w3) := HB2.out.trans (hb3.mono HB2.out.size)
  have HI3 : Hid (IsInts w3 v3 r) := hI3
  clear hb3 HB2 HL hI3
  go_wp2_with fail
  refine (HS.out _ _ HB3.out HI3.out).mono ?_
  rintro e w4 ⟨v4, rfl, hI4, hb4⟩
  have HB4 : Hid (Below w.heap.size w w4) := HB3.out.trans (hb4.mono HB3.out.size)
  have HI4 : Hid (∀ W, Below w4.heap.size w4 W → IsOps W v4 s) := fun W hW => hI4.below hW (Nat.le_refl _)
  clear hb4 HB3 HS hI4 HI3
  go_wp2_with fail
  refine (HM.out _ _ HB4.out (HI4.out _ (Below.refl _ _))).mono ?_
  rintro e w5 ⟨rfl, hb5⟩
  have HB5 : Hid (Below w.heap.size w w5) := HB4.out.trans (hb5.mono HB4.out.size)
  have HC5 : Hid (Below w4.heap.size w4 w5) := hb5
  clear hb5 HM
  go_wp2_with fail
  refine (HW.out _ HB5.out).mono ?_
  rintro e w6 ⟨v6, rfl, hI6, hb6⟩
  have HB6 : Hid (Below w.heap.size w w6) := HB5.out.trans (hb6.mono HB5.out.size)
  have HC6 : Hid (Below w4.heap.size w4 w6) := HC5.out.trans (hb6.mono HC5.out.size)
  have HI6 : Hid (∀ W, Below w6.heap.size w6 W → IsInts W v6 (valsL d)) := fun W hW => hI6.below hW (Nat.le_refl _)
  clear hb6 hI6 HW HB5 HC5 HB4
  go_wp2_with fail
  refine (HW2.out _ _ (HI4.out _ HC6.out)).mono ?_
  rintro e w7 ⟨v7, rfl, hI7, hb7⟩
  have HB7 : Hid (Below w.heap.size w w7) := HB6.out.trans (hb7.mono HB6.out.size)
  have HI7 : Hid (IsInts w7 v7 (valsL d)) := hI7
  have HI6' : Hid (IsInts w7 v6 (valsL d)) := HI6.out _ hb7
  clear hb7 hI7 HW2 HB6 HC6 HI6 HI4
  go_wp2_with fail
  refine (same_ints _ _ _ _ HI6'.out HI7.out (vals_few _)).mono ?_
  rintro e w8 ⟨rfl, hb8⟩
  have HB8 : Hid (Below w.heap.size w w8) := HB7.out.trans (hb8.mono HB7.out.size)
  clear hb8 HB7 HI6' HI7
  obtain ⟨a, b, ea, eb, hA, hB, hor⟩ := HT.out
  have HA : Hid (∀ W, Below w.heap.size w W → Calls Try.prog 14 #[v, u] W fun e w' => e = .returned (.tuple #[.bool a, ea]) ∧ Below W.heap.size W w') := hA
  have HBV : Hid (∀ W, Below w.heap.size w W → Calls Try.prog 11 #[v, u] W fun e w' => e = .returned (.tuple #[.bool b, eb]) ∧ Below W.heap.size W w') := hB
  clear hA hB HT
  go_wp2_with fail
  refine (HA.out _ HB8.out).mono ?_
  rintro e wa ⟨rfl, hba⟩
  have HBA : Hid (Below w.heap.size w wa) := HB8.out.trans (hba.mono HB8.out.size)
  clear hba HA HB8
  go_wp2_with fail
  refine (HBV.out _ HBA.out).mono ?_
  rintro e wb ⟨rfl, hbb⟩
  have HBB : Hid (Below w.heap.size w wb) := HBA.out.trans (hbb.mono HBA.out.size)
  clear hbb HBV HBA
  rcases hor with ⟨n, m, rfl, rfl⟩ | ⟨rfl, rfl, rfl, rfl⟩ | ⟨rfl, rfl, rfl, d, hv, hu⟩
  · go_wp2_with fail
    go_ret
    exact ⟨rfl, HBB.out⟩
  · go_wp2_with fail
    go_ret
    exact ⟨rfl, HBB.out⟩
  · have HV : Hid (∀ W, Below w.heap.size w W → Calls Try.prog 12 #[v] W fun e w' => ∃ v', e = .returned (.tuple #[v', .nilIface]) ∧ IsInts w' v' (valsL d) ∧ Below W.heap.size W w') := hv
    have HU : Hid (∀ W, Below w.heap.size w W → Calls Try.prog 12 #[u] W fun e w' => ∃ v', e = .returned (.tuple #[v', .nilIface]) ∧ IsInts w' v' (valsL d) ∧ Below W.heap.size W w') := hu
    clear hv hu
    go_wp2_with fail
    refine (HV.out _ HBB.out).mono ?_
    rintro e wc ⟨vc, rfl, hIc, hbc⟩
    have HBC : Hid (Below w.heap.size w wc) := HBB.out.trans (hbc.mono HBB.out.size)
    have HIC : Hid (∀ W, Below wc.heap.size wc W → IsInts W vc (valsL d)) := fun W hW => hIc.below hW (Nat.le_refl _)
    clear hbc hIc HV HBB
    go_wp2_with fail
    refine (HU.out _ HBC.out).mono ?_
    rintro e wd ⟨vd, rfl, hId, hbd⟩
    have HBD : Hid (Below w.heap.size w wd) := HBC.out.trans (hbd.mono HBC.out.size)
    have HID : Hid (IsInts wd vd (valsL d)) := hId
    have HIC' : Hid (IsInts wd vc (valsL d)) := HIC.out _ hbd
    clear hbd hId HU HBC HIC
    go_wp2_with fail
    refine (same_ints _ _ _ _ HIC'.out HID.out (vals_few _)).mono ?_
    rintro e we ⟨rfl, hbe⟩
    have HBE : Hid (Below w.heap.size w we) := HBD.out.trans (hbe.mono HBD.out.size)
    clear hbe HBD
    go_wp2_with fail
    go_ret
    exact ⟨rfl, HBE.out⟩

theorem wider_walk (hV : ValuesOk) (h g : List Op3) (v u : Value) (w : World) (hI : IsOps w v h) (hJ : IsOps w u g) :
    Calls Try.prog 3 #[v, u] w fun e w' => e = .returned (.bool true) ∧ Below w.heap.size w w' := by
  have HI : ∀ W, Below w.heap.size w W → IsOps W v h := fun W hW => hI.below hW (Nat.le_refl _)
  have hT := wtail hV h g v u w hI hJ
  by_cases hc : (chk h).2 = 0
  · have hcd := chk_done hc
    have hno : serOrd (doneL h) = none → ∀ W, Below w.heap.size w W → Calls Try.prog 8 #[v] W fun e w' => e = .returned (.tuple #[.slice none 0 0, .iface 75 (.int .i64 8)]) ∧ Below W.heap.size W w' := fun hs W hW => by
      refine (ord_any h v W (HI W hW) hc).mono ?_
      rintro e w' ⟨⟨o, v', ho, -⟩ | ⟨-, he⟩, hb⟩
      · rw [hs] at ho; cases ho
      · exact ⟨he, hb⟩
    cases hk : lookO (doneL h) with
    | none =>
      have hs : serOrd (doneL h) = none := by
        cases hs : serOrd (doneL h) with
        | none => rfl
        | some o =>
          obtain ⟨r, hr⟩ := look_ser (doing_done hc) hcd hs
          have : lookO (doneL h) = some r := hr
          rw [hk] at this; cases this
      refine wider_skip v u w 8 5 (hno hs) (fun W hW => ?_) hT
      refine (vorder_any h v W (HI W hW) hc).mono ?_
      rintro e w' ⟨⟨r, v', hr, -⟩ | ⟨-, he⟩, hb⟩
      · rw [hk] at hr; cases hr
      · exact ⟨he, hb⟩
    | some r =>
      obtain ⟨hsr, hlk⟩ := look_found (show tryO (dealsL (doneL h)) (fun o => sightB (doneL h) (alongL (doneL h) o)) (dealsL (doneL h)).length [] = some r from hk)
      have hcs := along_chk hcd hsr
      have hds := ((doing_done hc).along hcd hsr).done
      have hL : ∀ W, Below w.heap.size w W → Calls Try.prog 9 #[v] W fun e w' => ∃ v', e = .returned (.tuple #[v', .nilIface]) ∧ IsInts w' v' r ∧ Below W.heap.size W w' := fun W hW => by
        refine (vorder_any h v W (HI W hW) hc).mono ?_
        rintro e w' ⟨⟨r', v', hr, he, h1⟩ | ⟨hr, -⟩, hb⟩
        · rw [hk] at hr
          obtain rfl := Option.some.inj hr
          exact ⟨v', he, h1, hb⟩
        · rw [hk] at hr; cases hr
      have hM : ∀ W x, Below w.heap.size w W → IsOps W x (alongL (doneL h) r) → Calls Try.prog 11 #[v, x] W fun e w' => e = .returned (.tuple #[.bool true, .nilIface]) ∧ Below W.heap.size W w' := fun W x hW hx => by
        have := vsame_ok h (alongL (doneL h) r) v x W (HI W hW) hx hc hcs
        rw [hds, hlk] at this
        exact this
      have hV2 : ∀ W x, IsOps W x (alongL (doneL h) r) → Calls Try.prog 12 #[x] W fun e w' => ∃ v', e = .returned (.tuple #[v', .nilIface]) ∧ IsInts w' v' (valsL (doneL h)) ∧ Below W.heap.size W w' := fun W x hx => by
        have := hV (alongL (doneL h) r) x W hx hcs
        rw [hds, ← vals_same (chk_ops hcd) (chk_ops hcs) hlk] at this
        exact this
      cases hs : serOrd (doneL h) with
      | none => exact wider_err v u w r (alongL (doneL h) r) (doneL h) (hno hs) hL (fun W x hW hx => ser_ok h r v x W (HI W hW) hx hc hsr) hM (fun W hW => hV h v W (HI W hW) hc) hV2 hT
      | some o =>
        refine wider_nil v u w r (alongL (doneL h) r) (doneL h) (fun W hW => ?_) hL (fun W x hW hx => ser_ok h r v x W (HI W hW) hx hc hsr) hM (fun W hW => hV h v W (HI W hW) hc) hV2 hT
        refine (ord_any h v W (HI W hW) hc).mono ?_
        rintro e w' ⟨⟨o', v', -, he, -⟩ | ⟨hn, -⟩, hb⟩
        · exact ⟨v', he, hb⟩
        · rw [hs] at hn; cases hn
  · exact wider_skip v u w _ _ (fun W hW => ord_bad h v W (HI W hW) hc) (fun W hW => vorder_bad h v W (HI W hW) hc) hT
end Go.Proofs.Ytgnbejemhdcemad
