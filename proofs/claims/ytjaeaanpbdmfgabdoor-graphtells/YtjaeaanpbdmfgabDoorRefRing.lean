/-
  PROVED HERE: laneref1.Ring gives the first ring of so many that goes on from a beginning and in which no deal comes twice, and tells where there is none. Old memory stays as it was.
  Conditions: none.
-/
import Derived.Test.YtjaeaanpbdmfgabDoorRefIn
import Derived.Test.YtjaeaanpbdmfgabDoorRingPlain
import Derived.Test.YtjaeaanpbdmfgabDoorRefWays
import Derived.Test.YtjaeaanpbdmfgabDoorRefGraph
import Derived.Test.YtjaeaanpbdmfgabDoorGraphGrow
import Derived.Laws.AppendOwnNone
namespace Go.Proofs.YtjaeaanpbdmfgabDoor
open Go.RowKit

def RingAt (l : List Edge2) (f : Nat) (r : List Nat) : Prop := ∀ (w : World) (n : Nat) (u v : Value), r.length + f = n → 1 ≤ n → n ≤ 6 → (∀ k ∈ r, 1 ≤ k ∧ k ≤ 6) → IsInts w v (r.map fun (k : Nat) => (k : Int)) → IsEdges w u l → gchk l = 0 → (r = [] → v = .slice none 0 0) →
  Calls Tryd.prog 13 #[u, v, .int .i64 n] w fun e w' => (∃ v', (∃ q, growR (stepsS l) f r = some q ∧ e = .returned (.tuple #[v', .bool true]) ∧ IsInts w' v' (q.map fun (k : Nat) => (k : Int))) ∨ (growR (stepsS l) f r = none ∧ e = .returned (.tuple #[v', .bool false]))) ∧ Below w.heap.size w w'
def RingOk (l : List Edge2) (f : Nat) : Prop := ∀ r : List Nat, RingAt l f r
theorem map_at (r : List Nat) (k : Nat) (h : k < r.length) : (r.map fun (k : Nat) => (k : Int)).getD k 0 = ((r.getD k 0 : Nat) : Int) := by
  simp [List.getD, List.getElem?_eq_getElem h]
theorem map_in (r : List Nat) (t : Nat) : inB (r.map fun (k : Nat) => (k : Int)) (t : Int) = decide (t ∈ r) := by
  rw [Bool.eq_iff_iff, inB_iff, List.mem_map, decide_eq_true_iff]
  constructor
  · rintro ⟨k, hk, h⟩
    have : k = t := by omega
    exact this ▸ hk
  · intro h; exact ⟨t, h, rfl⟩

set_option maxHeartbeats 8000000 in
set_option maxRecDepth 100000 in
theorem refRing_zero (l : List Edge2) : RingOk l 0 := by
  intro r w n u v hn hn1 hn6 hd hI hE hc hnil
  have hl := gchk_len hc
  have HD : Hid (Right l) := gchk_deal hc
  have HC : Hid (gchk l = 0) := hc
  have HRD : Hid (∀ k ∈ r, 1 ≤ k ∧ k ≤ 6) := hd
  have HIE : Hid (∀ W, Below w.heap.size w W → IsInts W v (r.map fun (k : Nat) => (k : Int)) ∧ IsEdges W u l) := fun W hW => ⟨hI.below hW (Nat.le_refl _), hE.below hW (Nat.le_refl _)⟩
  obtain ⟨ade, be, offe, cape, rfl, hae, -, hbe, hce⟩ := hE
  have HE : Hid (∀ W, Below w.heap.size w W → ∀ k, k < l.length → ade = some ⟨be, offe, none⟩ ∧ W.cell? ⟨be, offe + k * 2, none⟩ = some (.int .i64 (l.getD k (0, 0)).1) ∧ W.cell? ⟨be, offe + k * 2 + 1, none⟩ = some (.int .i64 (l.getD k (0, 0)).2)) := fun W hW k hk => ⟨hae (by omega), (hce.below hW hbe) k hk⟩
  have HBL : Hid (0 < l.length → be < w.heap.size) := fun hp => by
    rcases hbe with h | h
    · exact h
    · subst h; simp at hp
  have hrn : r ≠ [] := fun e => by subst e; simp at hn; omega
  obtain ⟨adv, bv, offv, capv, rfl, hav, -, hbv, hcv⟩ := hI
  have hln : (r.map fun (k : Nat) => (k : Int)).length = n := by rw [List.length_map]; omega
  have hlr : r.length = n := by omega
  rw [hln] at hav hcv HIE ⊢
  have hadr := hav (by omega)
  subst hadr
  have hbvw : bv < w.heap.size := by
    rcases hbv with h | h
    · exact h
    · have := congrArg List.length h
      rw [hln] at this
      simp at this
      omega
  obtain ⟨m, hm⟩ : ∃ m, n = m + 1 := ⟨n - 1, by omega⟩
  have c0 := hcv (n - 1) (by omega)
  have c1 := hcv 0 (by omega)
  rw [map_at r _ (by omega)] at c0 c1
  have hla := last_at r
  have hhe := head_at r
  rw [hlr] at hla
  rw [← hla] at c0
  rw [← hhe] at c1
  obtain ⟨la, hlae⟩ : ∃ la, lastN r = la := ⟨_, rfl⟩
  obtain ⟨he, hhee⟩ : ∃ he, headN r = he := ⟨_, rfl⟩
  obtain ⟨_, _, _, _, hml, hmh⟩ := ends_at hrn
  have hl6 := HRD.out _ hml
  have hh6 := HRD.out _ hmh
  have HR : Hid (growR (stepsS l) 0 r = if stepsS l la he = true then some r else none) := by show growR (stepsS l) 0 r = _; rw [growR, hlae, hhee]
  rw [hlae] at c0 hl6
  rw [hhee] at c1 hh6
  rw [show n - 1 = m by omega] at c0
  rw [Nat.add_zero] at c1
  have la7 : (la : Int) < 7 := by omega
  have he7 : (he : Int) < 7 := by omega
  have hnm : (n : Int) - 1 = (m : Int) := by omega
  have hmn : (m : Int) < (n : Int) := by omega
  have hmn' : m < n := by omega
  clear hm
  have HV : Hid (∀ W, Below w.heap.size w W → W.cell? ⟨bv, offv + m, none⟩ = some (.int .i64 (la : Int)) ∧ W.cell? ⟨bv, offv, none⟩ = some (.int .i64 (he : Int))) := fun W hW => ⟨(hW.cell (p := ⟨bv, offv + m, none⟩) hbvw).trans c0, (hW.cell (p := ⟨bv, offv, none⟩) hbvw).trans c1⟩
  clear hae hbe hce hav hbv hcv hla hhe hlae hhee hml hmh hln hlr hd hc hnil hrn c0 c1
  go_enter Tryd.func13, Tryd.ntmps13
  go_wp2_with fail
  go_loopw [9] (fun v9 wr => ∃ k : Nat, k ≤ l.length ∧ v9 = .int .i64 k ∧ Below w.heap.size w wr ∧ MatT 40 wr w.heap.size (stepsS (l.take k))) (fun v9 _ => l.length - (intOf v9).toNat)
  case atStart => exact ⟨0, Nat.zero_le _, rfl, (Below.refl _ w).alloc (Nat.le_refl _) _, (matT_fresh _ w _ rfl).congr rfl⟩
  case round =>
    obtain ⟨k, hk, rfl, hbel, hs⟩ := hrel
    have hB1 := hs.lt
    have HS : Hid (MatT 40 wr w.heap.size (stepsS (l.take k))) := hs
    clear hs
    by_cases hlt : k < l.length
    · obtain ⟨rfl, c0, c1⟩ := HE.out wr hbel k hlt
      obtain ⟨⟨t, a⟩, ho⟩ : ∃ o : Edge2, l.getD k (0, 0) = o := ⟨_, rfl⟩
      rw [ho] at c0 c1
      have hmem : (t, a) ∈ l := by rw [← ho]; simp [List.getD, List.getElem?_eq_getElem hlt]
      have hta := HD.out _ hmem
      simp only at hta c0 c1
      obtain ⟨t, rfl⟩ : ∃ n : Nat, t = n := ⟨t.toNat, by omega⟩
      obtain ⟨a, rfl⟩ : ∃ n : Nat, a = n := ⟨a.toNat, by omega⟩
      have HT : Hid (l.take (k + 1) = l.take k ++ [((t : Int), (a : Int))]) := by
        show l.take (k + 1) = l.take k ++ [((t : Int), (a : Int))]
        rw [List.take_succ_eq_append_getElem hlt, ← ho]; simp [List.getD, List.getElem?_eq_getElem hlt]
      have ht6 : t ≤ 6 := by omega
      have ha6 : a ≤ 6 := by omega
      have hbw := HBL.out (by omega)
      clear ho hmem hta
      have ht7 : (t : Int) < 7 := by omega
      have ha7 : (a : Int) < 7 := by omega
      have hbn : be ≠ w.heap.size := by omega
      have f0 := HS.out.cell (i := t) (k := a) (by omega) (by omega)
      have z0 := HS.out.thaw (t * 7 + a)
      go_wp2_with fail
      go_region
      all_goals
        go_wp2_with fail
        go_roundw
        case rel => exact ⟨k + 1, by omega, by go_num, (hbel.setCell (Nat.le_refl _) _).drew, ((HS.out.set (by omega)).drew).congr (by rw [HT.out, set_steps])⟩
        case measure => simp [intOf]; omega
    · have HM : Hid (MatT 40 wr w.heap.size (stepsS l)) := by
        have h1 := HS.out
        rw [List.take_of_length_le (by omega)] at h1
        exact h1
      have hlt' : ¬ (k : Int) < (l.length : Int) := by omega
      clear HS hk
      obtain ⟨d0, d1⟩ := HV.out wr hbel
      have c2 := HM.out.cell (i := la) (k := he) (by omega) (by omega)
      obtain ⟨x, hx⟩ : ∃ x, stepsS l la he = x := ⟨_, rfl⟩
      rw [hx] at c2
      have HX : Hid (growR (stepsS l) 0 r = if x = true then some r else none) := by rw [← hx]; exact HR.out
      clear hx
      go_wp2_with fail
      go_quiet (fail)
      go_wp2_with fail
      go_ret2
      refine ⟨⟨.slice (some ⟨bv, offv, none⟩) n capv, ?_⟩, below_drewN hbel _⟩
      cases x with
      | true => exact .inl ⟨r, HX.out, rfl, (HIE.out _ (below_drewN hbel _)).1⟩
      | false => exact .inr ⟨HX.out, rfl⟩

set_option maxHeartbeats 8000000 in
set_option maxRecDepth 100000 in
theorem refRing_nil (l : List Edge2) (f : Nat) (ih : RingOk l f) : RingAt l (f + 1) [] := by
  have IH : Hid (RingOk l f) := ih
  clear ih
  intro w n u v hn hn1 hn6 hd hI hE hc hnil
  obtain ⟨r, hr⟩ : ∃ r : List Nat, r = [] := ⟨_, rfl⟩
  have HRN : Hid (r = []) := hr
  rw [← hr] at hn hd hI ⊢
  clear hr
  have hl := gchk_len hc
  have HD : Hid (Right l) := gchk_deal hc
  have HC : Hid (gchk l = 0) := hc
  have HRD : Hid (∀ k ∈ r, 1 ≤ k ∧ k ≤ 6) := hd
  have HIE : Hid (∀ W, Below w.heap.size w W → IsInts W v (r.map fun (k : Nat) => (k : Int)) ∧ IsEdges W u l) := fun W hW => ⟨hI.below hW (Nat.le_refl _), hE.below hW (Nat.le_refl _)⟩
  obtain ⟨ade, be, offe, cape, rfl, hae, -, hbe, hce⟩ := hE
  have HE : Hid (∀ W, Below w.heap.size w W → ∀ k, k < l.length → ade = some ⟨be, offe, none⟩ ∧ W.cell? ⟨be, offe + k * 2, none⟩ = some (.int .i64 (l.getD k (0, 0)).1) ∧ W.cell? ⟨be, offe + k * 2 + 1, none⟩ = some (.int .i64 (l.getD k (0, 0)).2)) := fun W hW k hk => ⟨hae (by omega), (hce.below hW hbe) k hk⟩
  have HBL : Hid (0 < l.length → be < w.heap.size) := fun hp => by
    rcases hbe with h | h
    · exact h
    · subst h; simp at hp
  have hvn := hnil rfl
  subst hvn
  have HLN : Hid (r.length = 0) := by show r.length = 0; rw [HRN.out]; rfl
  have hne : ((0 : Int) == (n : Int)) = false := by simp; omega
  obtain ⟨i0, hi, hz0, hs0, hy0⟩ := info_parts infoInt
  have HT : Hid (Tryd.prog.info? 3 = some i0 ∧ i0.zero = some (.int .i64 0) ∧ i0.size = 1 ∧ i0.bytes = 8) := ⟨hi, hz0, hs0, hy0⟩
  clear hi hz0 hs0 hy0 hae hbe hce hd hc hnil
  go_enter Tryd.func13, Tryd.ntmps13
  go_wp2_with fail
  go_loopw [9] (fun v9 wr => ∃ k : Nat, k ≤ l.length ∧ v9 = .int .i64 k ∧ Below w.heap.size w wr ∧ MatT 40 wr w.heap.size (stepsS (l.take k))) (fun v9 _ => l.length - (intOf v9).toNat)
  case atStart => exact ⟨0, Nat.zero_le _, rfl, (Below.refl _ w).alloc (Nat.le_refl _) _, (matT_fresh _ w _ rfl).congr rfl⟩
  case round =>
    obtain ⟨k, hk, rfl, hbel, hs⟩ := hrel
    have hB1 := hs.lt
    have HS : Hid (MatT 40 wr w.heap.size (stepsS (l.take k))) := hs
    clear hs
    by_cases hlt : k < l.length
    · obtain ⟨rfl, c0, c1⟩ := HE.out wr hbel k hlt
      obtain ⟨⟨t, a⟩, ho⟩ : ∃ o : Edge2, l.getD k (0, 0) = o := ⟨_, rfl⟩
      rw [ho] at c0 c1
      have hmem : (t, a) ∈ l := by rw [← ho]; simp [List.getD, List.getElem?_eq_getElem hlt]
      have hta := HD.out _ hmem
      simp only at hta c0 c1
      obtain ⟨t, rfl⟩ : ∃ n : Nat, t = n := ⟨t.toNat, by omega⟩
      obtain ⟨a, rfl⟩ : ∃ n : Nat, a = n := ⟨a.toNat, by omega⟩
      have HT : Hid (l.take (k + 1) = l.take k ++ [((t : Int), (a : Int))]) := by
        show l.take (k + 1) = l.take k ++ [((t : Int), (a : Int))]
        rw [List.take_succ_eq_append_getElem hlt, ← ho]; simp [List.getD, List.getElem?_eq_getElem hlt]
      have ht6 : t ≤ 6 := by omega
      have ha6 : a ≤ 6 := by omega
      have hbw := HBL.out (by omega)
      clear ho hmem hta
      have ht7 : (t : Int) < 7 := by omega
      have ha7 : (a : Int) < 7 := by omega
      have hbn : be ≠ w.heap.size := by omega
      have f0 := HS.out.cell (i := t) (k := a) (by omega) (by omega)
      have z0 := HS.out.thaw (t * 7 + a)
      go_wp2_with fail
      go_region
      all_goals
        go_wp2_with fail
        go_roundw
        case rel => exact ⟨k + 1, by omega, by go_num, (hbel.setCell (Nat.le_refl _) _).drew, ((HS.out.set (by omega)).drew).congr (by rw [HT.out, set_steps])⟩
        case measure => simp [intOf]; omega
    · have HM : Hid (MatT 40 wr w.heap.size (stepsS l)) := by
        have h1 := HS.out
        rw [List.take_of_length_le (by omega)] at h1
        exact h1
      have hlt' : ¬ (k : Int) < (l.length : Int) := by omega
      clear HS hk
      go_wp2_with fail
      go_loopw [10] (fun v10 wr => ∃ t : Nat, 1 ≤ t ∧ t ≤ 7 ∧ v10 = .int .i64 t ∧ Below w.heap.size w wr ∧ MatT 40 wr w.heap.size (stepsS l) ∧ (∀ j, 1 ≤ j → j < t → okR (stepsS l) r j = true → growR (stepsS l) f (r ++ [j]) = none)) (fun v10 _ => 7 - (intOf v10).toNat)
      case atStart => exact ⟨1, by omega, by omega, rfl, hbel, HM.out, fun j h1 h2 => absurd h1 (by omega)⟩
      case round =>
        clear hbel HM hB1
        obtain ⟨t, ht1, ht7, rfl, hbel, hm, hno⟩ := hrel
        have HM : Hid (MatT 40 wr w.heap.size (stepsS l)) := hm
        have HNO : Hid (∀ j, 1 ≤ j → j < t → okR (stepsS l) r j = true → growR (stepsS l) f (r ++ [j]) = none) := hno
        have hml := hm.lt
        clear hm hno
        by_cases ht : t < 7
        · have ht6 : (t : Int) ≤ 6 := by omega
          have hti : (t : Int) < 7 := by omega
          go_wp2_with fail
          refine (in_any _ _ (t : Int) _ (HIE.out _ hbel).1 (by rw [List.length_map]; have := HLN.out; omega)).mono ?_
          rintro e wx ⟨rfl, hwx⟩
          rw [hwx, map_in]; clear hwx
          by_cases hmem : t ∈ r
          · have HOK : Hid (okR (stepsS l) r t = false) := by show okR (stepsS l) r t = false; unfold okR; simp [hmem]
            rw [decide_eq_true hmem]
            clear hmem
            go_wp2_with fail
            go_roundw
            case rel =>
              refine ⟨t + 1, by omega, by omega, by go_num, hbel, HM.out, fun j h1 h2 h3 => ?_⟩
              rcases Nat.lt_or_ge j t with h | h
              · exact HNO.out j h1 h h3
              · rw [show j = t by omega, HOK.out] at h3; cases h3
            case measure => simp [intOf]; omega
          · rw [decide_eq_false hmem]
            have HOK : Hid (okR (stepsS l) r t = true) := by show okR (stepsS l) r t = true; unfold okR; rw [HRN.out]; rfl
            clear hmem
            go_wp2_with (first | (at_builtin; refine wpList_append_own_none rfl (.tmp 75) (.tmp 76) 28 rfl (w.heap.size + 1) 3 i0 1 Tryd.underlying28 HT.out.1 (.slice none 0 0) 0 [] rfl (World.ownsRow_nil _ _ _ _) rfl ?_) | (at_builtin; refine wpList_append_own _ rfl (.tmp 78) (.tmp 80) 28 rfl (w.heap.size + 1) 3 i0 (.int .i64 0) 1 8 Tryd.underlying28 HT.out.1 HT.out.2.1 HT.out.2.2.1 HT.out.2.2.2 rfl (by decide) (.slice none 0 0) 0 [] rfl (World.ownsRow_nil _ _ _ _) ⟨wr.heap.size, 0, none⟩ 1 1 [.int .i64 t] rfl rfl (cell_one_new _ _ _) (by simp [Value.oneCell']) (by unfold maxLen; omega) (by omega) (by simp; omega) ?_; intro v3 w3 hown3 hgr3 hnil3))
            have hnb : ∀ m, (Value.slice none 0 0).ownBlock = some m → w.heap.size + 1 ≤ m := fun m hm => ((World.ownsRow_nil wr (w.heap.size + 1) 3 1).lt m hm).1
            have hB3 : Below w.heap.size w w3 := (hbel.alloc hbel.size _).grown hgr3 (by simp; omega) (fun m hm => by have := hnb m hm; omega)
            have HM3 : Hid (MatT 40 w3 w.heap.size (stepsS l)) := (hgr3.block w.heap.size (by have := HM.out.lt; simp; omega) (fun e => by have := hnb _ e.symm; omega)).trans (HM.out.alloc _)
            have hlt3 := HM3.out.lt
            have HI3 : Hid (IsInts w3 v3 ((r ++ [t]).map fun (k : Nat) => (k : Int))) := isInts_own (n := 0 + 1) (by have h1 := hown3; rw [show ([] : List Value) ++ [Value.int .i64 (t : Int)] = ((r ++ [t]).map fun (k : Nat) => (k : Int)).map (Value.int .i64) by rw [HRN.out]; rfl] at h1; exact h1) (by rw [HRN.out]; rfl)
            clear hown3 hgr3 hnil3 hnb
            have HP3 : Hid (Below w.heap.size w w3) := hB3
            refine (IH.out (r ++ [t]) w3 n _ _ (by have := HLN.out; simp; omega) hn1 hn6 (fun k hk => by
              rcases List.mem_append.1 hk with h | h
              · exact HRD.out k h
              · rw [List.mem_singleton.1 h]; omega) HI3.out (HIE.out _ hB3).2 HC.out (fun h => by simp at h)).mono ?_
            rintro e w4 ⟨⟨v4, hor⟩, hb4⟩
            have hB4 : Below w.heap.size w w4 := hB3.trans (hb4.mono hB3.size)
            rcases hor with ⟨q, hq, rfl, hIq⟩ | ⟨hq, rfl⟩
            · have HQ : Hid (growR (stepsS l) (f + 1) r = some q) := growR_hit ht1 (by omega) HOK.out hq HNO.out
              go_wp2_with fail
              go_ret2
              exact ⟨⟨v4, .inl ⟨q, HQ.out, rfl, hIq⟩⟩, hB4⟩
            · have HQ : Hid (growR (stepsS l) f (r ++ [t]) = none) := hq
              go_wp2_with fail
              go_roundw
              case rel =>
                refine ⟨t + 1, by omega, by omega, by go_num, hB4, HM3.out.below hb4 hlt3, fun j h1 h2 h3 => ?_⟩
                rcases Nat.lt_or_ge j t with h | h
                · exact HNO.out j h1 h h3
                · rw [show j = t by omega]; exact HQ.out
              case measure => simp [intOf]; omega
        · have ht6 : ¬ (t : Int) ≤ 6 := by omega
          have HQ : Hid (growR (stepsS l) (f + 1) r = none) := growR_none fun j h1 h2 => HNO.out j h1 (by omega)
          go_wp2_with fail
          go_ret2
          exact ⟨⟨.slice none 0 0, .inr ⟨HQ.out, rfl⟩⟩, hbel⟩

set_option maxHeartbeats 8000000 in
set_option maxRecDepth 100000 in
theorem refRing_cons (l : List Edge2) (f : Nat) (ih : RingOk l f) (r0 : List Nat) (hr0 : r0 ≠ []) : RingAt l (f + 1) r0 := by
  have IH : Hid (RingOk l f) := ih
  clear ih
  have HRNE : Hid (r0 ≠ []) := hr0
  clear hr0
  revert r0
  intro r HRNE w n u v hn hn1 hn6 hd hI hE hc hnil
  have hl := gchk_len hc
  have HD : Hid (Right l) := gchk_deal hc
  have HC : Hid (gchk l = 0) := hc
  have HRD : Hid (∀ k ∈ r, 1 ≤ k ∧ k ≤ 6) := hd
  have HIE : Hid (∀ W, Below w.heap.size w W → IsInts W v (r.map fun (k : Nat) => (k : Int)) ∧ IsEdges W u l) := fun W hW => ⟨hI.below hW (Nat.le_refl _), hE.below hW (Nat.le_refl _)⟩
  obtain ⟨ade, be, offe, cape, rfl, hae, -, hbe, hce⟩ := hE
  have HE : Hid (∀ W, Below w.heap.size w W → ∀ k, k < l.length → ade = some ⟨be, offe, none⟩ ∧ W.cell? ⟨be, offe + k * 2, none⟩ = some (.int .i64 (l.getD k (0, 0)).1) ∧ W.cell? ⟨be, offe + k * 2 + 1, none⟩ = some (.int .i64 (l.getD k (0, 0)).2)) := fun W hW k hk => ⟨hae (by omega), (hce.below hW hbe) k hk⟩
  have HBL : Hid (0 < l.length → be < w.heap.size) := fun hp => by
    rcases hbe with h | h
    · exact h
    · subst h; simp at hp
  obtain ⟨adv, bv, offv, capv, rfl, hav, -, hbv, hcv⟩ := hI
  obtain ⟨ln, hln⟩ : ∃ ln, r.length = ln := ⟨_, rfl⟩
  have HLN : Hid (r.length = ln) := hln
  have hlm : (r.map fun (k : Nat) => (k : Int)).length = ln := by rw [List.length_map, hln]
  rw [hlm] at hav hcv HIE ⊢
  rw [hln] at hn
  have hne : ((ln : Int) == (n : Int)) = false := by simp; omega
  have HV : Hid (0 < ln → adv = some ⟨bv, offv, none⟩ ∧ bv < w.heap.size) := fun h => ⟨hav h, by
    rcases hbv with h1 | h1
    · exact h1
    · have := congrArg List.length h1
      rw [hlm] at this
      simp at this
      omega⟩
  have HCV : Hid (∀ j, j < ln → w.cell? ⟨bv, offv + j, none⟩ = some (.int .i64 ((r.getD j 0 : Nat) : Int))) := fun j hj => by
    have h1 := hcv j hj
    rw [map_at r j (by omega)] at h1
    exact h1
  obtain ⟨i0, hi, hz0, hs0, hy0⟩ := info_parts infoInt
  have HT : Hid (Tryd.prog.info? 3 = some i0 ∧ i0.zero = some (.int .i64 0) ∧ i0.size = 1 ∧ i0.bytes = 8) := ⟨hi, hz0, hs0, hy0⟩
  clear hi hz0 hs0 hy0 hae hbe hce hav hbv hcv hd hc hnil hln hlm
  go_enter Tryd.func13, Tryd.ntmps13
  go_wp2_with fail
  go_loopw [9] (fun v9 wr => ∃ k : Nat, k ≤ l.length ∧ v9 = .int .i64 k ∧ Below w.heap.size w wr ∧ MatT 40 wr w.heap.size (stepsS (l.take k))) (fun v9 _ => l.length - (intOf v9).toNat)
  case atStart => exact ⟨0, Nat.zero_le _, rfl, (Below.refl _ w).alloc (Nat.le_refl _) _, (matT_fresh _ w _ rfl).congr rfl⟩
  case round =>
    obtain ⟨k, hk, rfl, hbel, hs⟩ := hrel
    have hB1 := hs.lt
    have HS : Hid (MatT 40 wr w.heap.size (stepsS (l.take k))) := hs
    clear hs
    by_cases hlt : k < l.length
    · obtain ⟨rfl, c0, c1⟩ := HE.out wr hbel k hlt
      obtain ⟨⟨t, a⟩, ho⟩ : ∃ o : Edge2, l.getD k (0, 0) = o := ⟨_, rfl⟩
      rw [ho] at c0 c1
      have hmem : (t, a) ∈ l := by rw [← ho]; simp [List.getD, List.getElem?_eq_getElem hlt]
      have hta := HD.out _ hmem
      simp only at hta c0 c1
      obtain ⟨t, rfl⟩ : ∃ n : Nat, t = n := ⟨t.toNat, by omega⟩
      obtain ⟨a, rfl⟩ : ∃ n : Nat, a = n := ⟨a.toNat, by omega⟩
      have HT : Hid (l.take (k + 1) = l.take k ++ [((t : Int), (a : Int))]) := by
        show l.take (k + 1) = l.take k ++ [((t : Int), (a : Int))]
        rw [List.take_succ_eq_append_getElem hlt, ← ho]; simp [List.getD, List.getElem?_eq_getElem hlt]
      have ht6 : t ≤ 6 := by omega
      have ha6 : a ≤ 6 := by omega
      have hbw := HBL.out (by omega)
      clear ho hmem hta
      have ht7 : (t : Int) < 7 := by omega
      have ha7 : (a : Int) < 7 := by omega
      have hbn : be ≠ w.heap.size := by omega
      have f0 := HS.out.cell (i := t) (k := a) (by omega) (by omega)
      have z0 := HS.out.thaw (t * 7 + a)
      go_wp2_with fail
      go_region
      all_goals
        go_wp2_with fail
        go_roundw
        case rel => exact ⟨k + 1, by omega, by go_num, (hbel.setCell (Nat.le_refl _) _).drew, ((HS.out.set (by omega)).drew).congr (by rw [HT.out, set_steps])⟩
        case measure => simp [intOf]; omega
    · have HM : Hid (MatT 40 wr w.heap.size (stepsS l)) := by
        have h1 := HS.out
        rw [List.take_of_length_le (by omega)] at h1
        exact h1
      have hlt' : ¬ (k : Int) < (l.length : Int) := by omega
      clear HS hk
      go_wp2_with fail
      go_loopw [10] (fun v10 wr => ∃ t : Nat, 1 ≤ t ∧ t ≤ 7 ∧ v10 = .int .i64 t ∧ Below w.heap.size w wr ∧ MatT 40 wr w.heap.size (stepsS l) ∧ (∀ j, 1 ≤ j → j < t → okR (stepsS l) r j = true → growR (stepsS l) f (r ++ [j]) = none)) (fun v10 _ => 7 - (intOf v10).toNat)
      case atStart => exact ⟨1, by omega, by omega, rfl, hbel, HM.out, fun j h1 h2 => absurd h1 (by omega)⟩
      case round =>
        clear hbel HM hB1
        obtain ⟨t, ht1, ht7, rfl, hbel, hm, hno⟩ := hrel
        have HM : Hid (MatT 40 wr w.heap.size (stepsS l)) := hm
        have HNO : Hid (∀ j, 1 ≤ j → j < t → okR (stepsS l) r j = true → growR (stepsS l) f (r ++ [j]) = none) := hno
        have hml := hm.lt
        clear hm hno
        by_cases ht : t < 7
        · have ht6 : (t : Int) ≤ 6 := by omega
          have hti : (t : Int) < 7 := by omega
          go_wp2_with fail
          refine (in_any _ _ (t : Int) _ (HIE.out _ hbel).1 (by rw [List.length_map]; have := HLN.out; omega)).mono ?_
          rintro e wx ⟨rfl, hwx⟩
          rw [hwx, map_in]; clear hwx
          by_cases hmem : t ∈ r
          · have HOK : Hid (okR (stepsS l) r t = false) := by show okR (stepsS l) r t = false; unfold okR; simp [hmem]
            rw [decide_eq_true hmem]
            clear hmem
            go_wp2_with fail
            go_roundw
            case rel =>
              refine ⟨t + 1, by omega, by omega, by go_num, hbel, HM.out, fun j h1 h2 h3 => ?_⟩
              rcases Nat.lt_or_ge j t with h | h
              · exact HNO.out j h1 h h3
              · rw [show j = t by omega, HOK.out] at h3; cases h3
            case measure => simp [intOf]; omega
          · rw [decide_eq_false hmem]
            have hrn : r ≠ [] := HRNE.out
            have hpos : 0 < ln := by have := List.length_pos_iff.2 hrn; have := HLN.out; omega
            obtain ⟨hadr, hbvw⟩ := HV.out hpos
            subst hadr
            obtain ⟨m, hm⟩ : ∃ m, ln = m + 1 := ⟨ln - 1, by omega⟩
            have c0 := HCV.out m (by omega)
            have hla := last_at r
            rw [HLN.out, show ln - 1 = m by omega] at hla
            rw [← hla] at c0
            obtain ⟨la, hlae⟩ : ∃ la, lastN r = la := ⟨_, rfl⟩
            obtain ⟨_, _, _, _, hmr, _⟩ := ends_at hrn
            have hl6 := HRD.out _ hmr
            rw [hlae] at c0 hl6
            have d0 : wr.cell? ⟨bv, offv + m, none⟩ = some (.int .i64 (la : Int)) := (hbel.cell (p := ⟨bv, offv + m, none⟩) hbvw).trans c0
            have c2 := HM.out.cell (i := la) (k := t) (by omega) ht
            have HOKE : Hid (okR (stepsS l) r t = stepsS l la t) := by
              show okR (stepsS l) r t = stepsS l la t
              unfold okR
              rw [okB_cons hrn, hlae]; simp [hmem]
            have la7 : (la : Int) < 7 := by omega
            have hl0' : (0 : Int) < (ln : Int) := by omega
            have hkl : (ln : Int) - 1 = (m : Int) := by omega
            have hkl2 : (m : Int) < (ln : Int) := by omega
            have HNEW : Hid (∀ W, Below w.heap.size w W → ∀ j u, (natV r)[j]? = some u → W.cell? ((⟨bv, offv, none⟩ : Addr).add j) = some u) := fun W hW j u hj => by
              rw [Addr.add_lit, hW.cell (p := ⟨bv, offv + j, none⟩) hbvw]
              have hjl : j < r.length := by have := (List.getElem?_eq_some_iff.1 hj).1; rwa [natV_length] at this
              have h1 := HCV.out j (by have := HLN.out; omega)
              rw [h1]
              simp only [natV, List.getElem?_map, List.getElem?_eq_getElem hjl, Option.map_some] at hj
              rw [← hj]; simp [List.getD, List.getElem?_eq_getElem hjl]
            clear hrn hm hla hlae hmr hmem c0
            cases hm : stepsS l la t with
            | false =>
              rw [hm] at c2
              have HOK : Hid (okR (stepsS l) r t = false) := by show okR (stepsS l) r t = false; rw [HOKE.out, hm]
              clear hm
              go_wp2_with fail
              go_roundw
              case rel =>
                refine ⟨t + 1, by omega, by omega, by go_num, hbel, HM.out, fun j h1 h2 h3 => ?_⟩
                rcases Nat.lt_or_ge j t with h | h
                · exact HNO.out j h1 h h3
                · rw [show j = t by omega, HOK.out] at h3; cases h3
              case measure => simp [intOf]; omega
            | true =>
              rw [hm] at c2
              have HOK : Hid (okR (stepsS l) r t = true) := by show okR (stepsS l) r t = true; rw [HOKE.out, hm]
              clear hm
              go_wp2_with (first | (at_builtin; refine wpList_append_own _ rfl (.tmp 75) (.tmp 76) 28 rfl (w.heap.size + 1) 3 i0 (.int .i64 0) 1 8 Tryd.underlying28 HT.out.1 HT.out.2.1 HT.out.2.2.1 HT.out.2.2.2 rfl (by decide) (.slice none 0 0) 0 [] rfl (World.ownsRow_nil _ _ _ _) ⟨bv, offv, none⟩ ln capv (natV r) rfl (by rw [natV_length, HLN.out, Nat.mul_one]) (HNEW.out wr hbel) (fun u hu => by obtain ⟨k, _, rfl⟩ := List.mem_map.1 hu; rfl) (by unfold maxLen; omega) (by omega) (by have := HM.out.lt; omega) ?_; intro v2 w2 hown2 hgr2 hnil2; have hB2 : Below w.heap.size w w2 := hbel.grown hgr2 hbel.size (by intro k hk; simp [Value.ownBlock] at hk); have hsz2 := hB2.size; have HOWN2 : Hid (w2.ownsRow (w.heap.size + 1) 3 1 v2 ln (natV r)) := (by have h1 := hown2; rw [Nat.zero_add, List.nil_append] at h1; exact h1); have HM2 : Hid (MatT 40 w2 w.heap.size (stepsS l)) := (hgr2.block w.heap.size HM.out.lt (by simp [Value.ownBlock])).trans HM.out; clear hown2 hgr2 hnil2) | (at_builtin; refine wpList_append_own _ rfl (.tmp 78) (.tmp 80) 28 rfl (w.heap.size + 1) 3 i0 (.int .i64 0) 1 8 Tryd.underlying28 HT.out.1 HT.out.2.1 HT.out.2.2.1 HT.out.2.2.2 rfl (by decide) v2 ln (natV r) rfl (HOWN2.out.alloc _) ⟨w2.heap.size, 0, none⟩ 1 1 [.int .i64 t] rfl rfl (cell_one_new _ _ _) (by simp [Value.oneCell']) (by unfold maxLen; omega) (by omega) (by simp; omega) ?_; intro v3 w3 hown3 hgr3 hnil3))
              have hnb : ∀ m, v2.ownBlock = some m → w.heap.size + 1 ≤ m := fun m hm => (HOWN2.out.lt m hm).1
              have hB3 : Below w.heap.size w w3 := (hB2.alloc hsz2 _).grown hgr3 (by simp; omega) (fun m hm => by have := hnb m hm; omega)
              have HM3 : Hid (MatT 40 w3 w.heap.size (stepsS l)) := (hgr3.block w.heap.size (by have := HM2.out.lt; simp; omega) (fun e => by have := hnb _ e.symm; omega)).trans (HM2.out.alloc _)
              have hlt3 := HM3.out.lt
              have HI3 : Hid (IsInts w3 v3 ((r ++ [t]).map fun (k : Nat) => (k : Int))) := isInts_own (n := ln + 1) (by have h1 := hown3; rw [show natV r ++ [Value.int .i64 (t : Int)] = ((r ++ [t]).map fun (k : Nat) => (k : Int)).map (Value.int .i64) by simp [natV]] at h1; exact h1) (by rw [List.length_map, List.length_append, HLN.out]; rfl)
              clear hown3 hgr3 hnil3 hnb
              have HP3 : Hid (Below w.heap.size w w3) := hB3
              refine (IH.out (r ++ [t]) w3 n _ _ (by have := HLN.out; simp; omega) hn1 hn6 (fun k hk => by
                rcases List.mem_append.1 hk with h | h
                · exact HRD.out k h
                · rw [List.mem_singleton.1 h]; omega) HI3.out (HIE.out _ hB3).2 HC.out (fun h => by simp at h)).mono ?_
              rintro e w4 ⟨⟨v4, hor⟩, hb4⟩
              have hB4 : Below w.heap.size w w4 := hB3.trans (hb4.mono hB3.size)
              rcases hor with ⟨q, hq, rfl, hIq⟩ | ⟨hq, rfl⟩
              · have HQ : Hid (growR (stepsS l) (f + 1) r = some q) := growR_hit ht1 (by omega) HOK.out hq HNO.out
                go_wp2_with fail
                go_ret2
                exact ⟨⟨v4, .inl ⟨q, HQ.out, rfl, hIq⟩⟩, hB4⟩
              · have HQ : Hid (growR (stepsS l) f (r ++ [t]) = none) := hq
                go_wp2_with fail
                go_roundw
                case rel =>
                  refine ⟨t + 1, by omega, by omega, by go_num, hB4, HM3.out.below hb4 hlt3, fun j h1 h2 h3 => ?_⟩
                  rcases Nat.lt_or_ge j t with h | h
                  · exact HNO.out j h1 h h3
                  · rw [show j = t by omega]; exact HQ.out
                case measure => simp [intOf]; omega
        · have ht6 : ¬ (t : Int) ≤ 6 := by omega
          have HQ : Hid (growR (stepsS l) (f + 1) r = none) := growR_none fun j h1 h2 => HNO.out j h1 (by omega)
          go_wp2_with fail
          go_ret2
          exact ⟨⟨.slice none 0 0, .inr ⟨HQ.out, rfl⟩⟩, hbel⟩
theorem refRing_succ (l : List Edge2) (f : Nat) (ih : RingOk l f) : RingOk l (f + 1) := by
  intro r
  by_cases h : r = []
  · rw [h]; exact refRing_nil l f ih
  · exact refRing_cons l f ih r h
theorem refRing_any (l : List Edge2) (f : Nat) : RingOk l f := by
  induction f with
  | zero => exact refRing_zero l
  | succ f ih => exact refRing_succ l f ih
end Go.Proofs.YtjaeaanpbdmfgabDoor
