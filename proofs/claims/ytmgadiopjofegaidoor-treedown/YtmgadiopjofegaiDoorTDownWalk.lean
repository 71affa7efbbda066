/-
  PROVED HERE: lanelaw4.TreeDown returns true, whatever the number, if package tree answers as it is asked; old memory stays as it was.
  Conditions: package tree's contracts (TLegalC, TEdgesC); the variable errors.errorType lies as it should (EtAt).
  (Of these, what the claim wants: the rest was left out.)
-/
import Derived.Test.YtmgadiopjofegaiDoorTreeAsk
import Derived.Test.YtmgadiopjofegaiDoorTold
import Derived.Test.YtmgadiopjofegaiDoorOps
import Derived.Test.YtmgadiopjofegaiDoorEdgeRow
import Derived.Test.YtmgadiopjofegaiDoorDone
import Derived.Maps.AppendAt
namespace Go.Proofs.YtmgadiopjofegaiDoor
open Go.RowKit

/-- One that goes down: its grips when k items were come to. -/
def downTo (tx : Int) : Nat → List Grip3
  | 0 => []
  | k + 1 => downTo tx k ++ ((tx, (k : Int) + 1, true) :: (if 0 < k then [(tx, (k : Int), false)] else []))
def downAll (n : Nat) (tx : Int) : List Grip3 := downTo tx n ++ [(tx, (n : Int), false)]
/-- The grips of the first m of two. -/
def down2 (n : Nat) : Nat → List Grip3
  | 0 => []
  | m + 1 => down2 n m ++ downAll n ((m : Int) + 1)
def upL (n : Nat) : List Int := (List.range n).map fun i : Nat => (i : Int)
theorem upL_succ (n : Nat) : upL (n + 1) = upL n ++ [(n : Int)] := by simp [upL, List.range_succ]
theorem upL_length (n : Nat) : (upL n).length = n := by simp [upL]
theorem downTo_len (tx : Int) : ∀ k, (downTo tx k).length ≤ 2 * k := by
  intro k
  induction k with
  | zero => simp [downTo]
  | succ k ih =>
    unfold downTo
    split <;> simp <;> omega
theorem down2_len (n : Nat) (hn : n ≤ 6) : ∀ m, (down2 n m).length ≤ 13 * m := by
  intro m
  induction m with
  | zero => simp [down2]
  | succ m ih =>
    have := downTo_len ((m : Int) + 1) n
    unfold down2 downAll
    simp
    omega
/-- What it comes to. -/
theorem down_good : ∀ n : Nat, 1 ≤ n → n ≤ 6 → (gripsR (upL n) (down2 n 2)).2 = 0 ∧ gripL (down2 n 2) = [(1, 2)] := by
  intro n h1 h6
  match n, h1, h6 with
  | 1, _, _ => decide +kernel
  | 2, _, _ => decide +kernel
  | 3, _, _ => decide +kernel
  | 4, _, _ => decide +kernel
  | 5, _, _ => decide +kernel
  | 6, _, _ => decide +kernel
theorem nil_bad : (gripsR [] []).2 = 1 := by decide +kernel
/-- The cells of grips. -/
def flatG : List Grip3 → List Value
  | [] => []
  | o :: r => .int .i64 o.1 :: .int .i64 o.2.1 :: .bool o.2.2 :: flatG r
theorem flatG_append (l m : List Grip3) : flatG (l ++ m) = flatG l ++ flatG m := by
  induction l with
  | nil => rfl
  | cons o r ih => simp [flatG, ih]
theorem flatG_one (l : List Grip3) : ∀ u ∈ flatG l, u.oneCell' = true := by
  induction l with
  | nil => intro u hu; cases hu
  | cons o r ih =>
    intro u hu
    simp only [flatG, List.mem_cons] at hu
    rcases hu with rfl | rfl | rfl | hu
    · rfl
    · rfl
    · rfl
    · exact ih u hu
theorem flatG_at (l : List Grip3) : ∀ i, i < l.length → (flatG l)[i * 3]? = some (.int .i64 (gAt l i).1) ∧ (flatG l)[i * 3 + 1]? = some (.int .i64 (gAt l i).2.1) ∧ (flatG l)[i * 3 + 2]? = some (.bool (gAt l i).2.2) := by
  induction l with
  | nil => intro i hi; cases hi
  | cons o r ih =>
    intro i hi
    cases i with
    | zero => exact ⟨rfl, rfl, rfl⟩
    | succ i =>
      have := ih i (by simpa using hi)
      rw [show (i + 1) * 3 = i * 3 + 3 by omega]
      simpa [flatG, gAt] using this
theorem isGrips_nil (w : World) : IsGrips w (.slice none 0 0) [] := ⟨none, 0, 0, 0, rfl, fun h => absurd h (by simp), fun _ => ⟨rfl, rfl⟩, .inr rfl, fun i hi => by simp at hi⟩
theorem isGrips_own {w : World} {base e n : Nat} {v : Value} {l : List Grip3} (h : w.ownsRow base e 3 v n (flatG l)) (hl : l.length = n) : IsGrips w v l := by
  have h' := h
  obtain ⟨_, ⟨hv, hd⟩ | ⟨g, cap, cur, hv, hb, hg, hn, hm, hsz, htk⟩⟩ := h'
  · have : l = [] := List.length_eq_zero_iff.1 (by omega)
    subst this
    rw [hv]
    exact isGrips_nil w
  · refine ⟨some ⟨g, 0, none⟩, g, 0, cap, by rw [hl]; exact hv, fun _ => rfl, fun h => (by simp at h), .inl (h.lt g (by rw [hv]; rfl)).2, fun i hi => ?_⟩
    have key : ∀ j u, (flatG l)[j]? = some u → w.cell? ⟨g, 0 + j, none⟩ = some u := fun j u hj => by
      have := h.cells (g := g) (by rw [hv]; rfl) j u hj
      rw [Addr.add_lit] at this
      exact this
    obtain ⟨c0, c1, c2⟩ := flatG_at l i hi
    exact ⟨key _ _ c0, by rw [Nat.add_assoc]; exact key _ _ c1, by rw [Nat.add_assoc]; exact key _ _ c2⟩
theorem infoGrip : (Tryd.prog.info? 40).map (fun i => (i.zero, i.size, i.bytes)) = some (some (.agg #[.int .i64 0, .int .i64 0, .bool false]), 3, 24) := by kernel_rfl
/-- One grip just built lies there. -/
theorem one_grip (w : World) (t a : Int) (b : Bool) : ∀ j u, (flatG [(t, a, b)])[j]? = some u → (w.alloc (.cells #[.int .i64 t, .int .i64 a, .bool b] 40)).cell? ((⟨w.heap.size, 0, none⟩ : Addr).add j) = some u := by
  intro j u hj
  match j, hj with
  | 0, hj => simp [flatG] at hj; subst hj; simp [Addr.add]
  | 1, hj => simp [flatG] at hj; subst hj; simp [Addr.add]
  | 2, hj => simp [flatG] at hj; subst hj; simp [Addr.add]
  | k + 3, hj => simp [flatG] at hj
theorem hid_t {p : Prop} (h : p) : Hid p := h
set_option maxHeartbeats 16000000 in
set_option maxRecDepth 100000 in
theorem tdown_in (hL : TLegalC) (hE : TEdgesC) (n : Nat) (w : World) (h1 : 1 ≤ n) (h6 : n ≤ 6) :
    Calls Tryd.prog 4 #[.int .i64 (n : Int)] w fun e w' => e = .returned (.bool true) ∧ Below w.heap.size w w' := by
  have HGD := hid_t (down_good n h1 h6)
  have HLL : Hid (∀ (W : World) (vu vl : Value), IsInts W vu (upL n) → IsGrips W vl (down2 n 2) → Calls Tryd.prog 9 #[vu, vl] W fun e w' => ∃ p, e = .returned (.tuple #[.int .i64 p, .nilIface]) ∧ Below W.heap.size W w') := fun W vu vl hu hl =>
    (hL (upL n) (down2 n 2) vu vl W hu hl).mono fun e w' ⟨he, hb⟩ => ⟨(gripsR (upL n) (down2 n 2)).1, by rw [he, HGD.out.1]; rfl, hb⟩
  have HEE : Hid (∀ (W : World) (vu vl : Value), IsInts W vu (upL n) → IsGrips W vl (down2 n 2) → Calls Tryd.prog 11 #[vu, vl] W fun e w' => ∃ b o c, e = .returned (.tuple #[.slice (some ⟨b, o, none⟩) 1 c, .nilIface]) ∧ w'.cell? ⟨b, o, none⟩ = some (.int .i64 1) ∧ w'.cell? ⟨b, o + 1, none⟩ = some (.int .i64 2) ∧ Below W.heap.size W w') := fun W vu vl hu hl => by
    refine (hE (upL n) (down2 n 2) vu vl W hu hl).mono ?_
    rintro e w' ⟨v', he, hed, hb⟩
    rw [if_neg (by rw [HGD.out.1]; decide), HGD.out.2] at hed
    obtain ⟨ad, b, off, cap, rfl, ha, _, _, hc⟩ := hed
    obtain rfl := ha (by simp)
    obtain ⟨c0, c1⟩ := hc 0 (by simp)
    exact ⟨b, off, cap, by rw [he, HGD.out.1]; rfl, by simpa using c0, by simpa using c1, hb⟩
  obtain ⟨i0, hi, hz0, hs0, hy0⟩ := info_parts infoInt
  have HI : Hid (Tryd.prog.info? 3 = some i0 ∧ i0.zero = some (.int .i64 0) ∧ i0.size = 1 ∧ i0.bytes = 8) := ⟨hi, hz0, hs0, hy0⟩
  obtain ⟨j0, gi, gz0, gs0, gy0⟩ := info_parts infoGrip
  have GI : Hid (Tryd.prog.info? 40 = some j0 ∧ j0.zero = some (.agg #[.int .i64 0, .int .i64 0, .bool false]) ∧ j0.size = 3 ∧ j0.bytes = 24) := ⟨gi, gz0, gs0, gy0⟩
  have hn1 : ¬ ((n : Int) < 1) := by omega
  have hn6 : ¬ ((6 : Int) < (n : Int)) := by omega
  clear hi hz0 hs0 hy0 gi gz0 gs0 gy0 HGD
  go_enter Tryd.func4, Tryd.ntmps4
  go_wp2_with fail
  go_loopw [5, 6] (fun v5 v6 wr => ∃ k : Nat, k ≤ n ∧ v6 = .int .i64 k ∧ wr.ownsRow w.heap.size 3 1 v5 k ((upL k).map (Value.int .i64)) ∧ Below w.heap.size w wr) (fun _ v6 _ => n - (intOf v6).toNat)
  case atStart => exact ⟨0, Nat.zero_le _, rfl, World.ownsRow_nil _ _ _ _, Below.refl _ _⟩
  case round =>
    obtain ⟨k, hk, rfl, hown, hbel⟩ := hrel
    have HOWN := hid_t hown
    have HB := hid_t hbel
    have hsz := hbel.size
    clear hown hbel
    by_cases hlt : k < n
    · have hlt' : (k : Int) < (n : Int) := by omega
      go_wp2_with (at_builtin; refine wpList_append_own _ rfl (.tmp 31) (.tmp 33) 22 rfl w.heap.size 3 i0 (.int .i64 0) 1 8 Tryd.underlying22 HI.out.1 HI.out.2.1 HI.out.2.2.1 HI.out.2.2.2 rfl (by decide) u5 k ((upL k).map (Value.int .i64)) rfl (HOWN.out.alloc _) ⟨wr.heap.size, 0, none⟩ 1 1 [.int .i64 (k : Int)] rfl rfl (cell_one_new _ _ _) (by simp [Value.oneCell']) (by unfold maxLen; omega) (by omega) (by simp; omega) ?_; intro v2 w2 hown2 hgr2 hnil2)
      have hB2 := (HB.out.alloc hsz _).grown hgr2 (by simp; omega) (fun k hk => (HOWN.out.lt k hk).1)
      go_roundw
      case rel => exact ⟨k + 1, by omega, by go_num, by rw [upL_succ, List.map_append]; exact hown2, hB2⟩
      case measure => simp [intOf]; omega
    · have hlt' : ¬ (k : Int) < (n : Int) := by omega
      obtain rfl : k = n := by omega
      have HU : Hid (∀ W, Below wr.heap.size wr W → IsInts W u5 (upL k)) := fun W hW => (isInts_own HOWN.out (upL_length k)).below hW (Nat.le_refl _)
      obtain ⟨ad5, n5, c5, rfl⟩ : ∃ d n p, u5 = .slice d n p := by obtain ⟨a, _, _, c, h, _⟩ := isInts_own HOWN.out (upL_length k); exact ⟨a, _, c, h⟩
      obtain ⟨w1, hw1⟩ : ∃ W : World, W = wr := ⟨_, rfl⟩
      subst hw1
      clear HOWN hlt
      go_wp2_with fail
      go_loopw [7, 8] (fun v7 v8 wr => ∃ m : Nat, m ≤ 2 ∧ v8 = .int .i64 ((m : Int) + 1) ∧ wr.ownsRow w1.heap.size 40 3 v7 (down2 k m).length (flatG (down2 k m)) ∧ Below w1.heap.size w1 wr) (fun _ v8 _ => 3 - (intOf v8).toNat)
      case atStart => exact ⟨0, by omega, rfl, World.ownsRow_nil _ _ _ _, Below.refl _ _⟩
      case round =>
        obtain ⟨m, hm, rfl, hown, hbel⟩ := hrel
        have HOWN := hid_t hown
        have HB1 := hid_t hbel
        clear hown hbel
        by_cases hm2 : m < 2
        · have hm2' : (m : Int) + 1 ≤ 2 := by omega
          obtain ⟨D, hD⟩ : ∃ D, down2 k m = D := ⟨_, rfl⟩
          have HD := hid_t hD
          have hDl : D.length ≤ 26 := by rw [← hD]; have := down2_len k h6 m; omega
          rw [hD] at HOWN
          obtain ⟨t, ht⟩ : ∃ t, (m : Int) + 1 = t := ⟨_, rfl⟩
          have HT := hid_t ht
          rw [ht]
          rw [ht] at hm2'
          clear hD
          go_wp2_with fail
          go_loopw [7, 9] (fun v7 v9 wr => ∃ i : Nat, i ≤ k ∧ v9 = .int .i64 ((i : Int) + 1) ∧ wr.ownsRow w1.heap.size 40 3 v7 (D ++ downTo t i).length (flatG (D ++ downTo t i)) ∧ Below w1.heap.size w1 wr) (fun _ v9 _ => k + 1 - (intOf v9).toNat)
          case atStart => exact ⟨0, Nat.zero_le _, rfl, by rw [downTo, List.append_nil]; exact HOWN.out, HB1.out⟩
          case round =>
            clear HOWN HB1
            obtain ⟨i, hik, rfl, hown, hbel⟩ := hrel
            have HOWN := hid_t hown
            have HB1 := hid_t hbel
            have hsz1 := hbel.size
            have hil := downTo_len t i
            obtain ⟨E, hE'⟩ : ∃ E, D ++ downTo t i = E := ⟨_, rfl⟩
            have hEl : E.length ≤ 40 := by rw [← hE', List.length_append]; omega
            have HE := hid_t hE'
            rw [hE'] at HOWN
            obtain ⟨ln, hln⟩ : ∃ ln, E.length = ln := ⟨_, rfl⟩
            have HLN := hid_t hln
            rw [hln] at HOWN hEl
            clear hown hbel hE' hln hil
            by_cases hi2 : i < k
            · have hi2' : (i : Int) + 1 ≤ (k : Int) := by omega
              by_cases hi0 : 0 < i
              · have hi0' : (1 : Int) < (i : Int) + 1 := by omega
                have HQ : Hid (D ++ downTo t (i + 1) = (E ++ [(t, (i : Int) + 1, true)]) ++ [(t, (i : Int), false)]) := by show _ = _; rw [← HE.out, downTo, if_pos hi0]; simp
                go_wp2_with (at_builtin; first
                  | (refine wpList_append_own _ rfl (.tmp 44) (.tmp 48) 23 rfl w1.heap.size 40 j0 (.agg #[.int .i64 0, .int .i64 0, .bool false]) 3 24 Tryd.underlying23 GI.out.1 GI.out.2.1 GI.out.2.2.1 GI.out.2.2.2 rfl (by decide) u7 ln (flatG E) rfl (HOWN.out.alloc _) ⟨wr.heap.size, 0, none⟩ 1 1 (flatG [(t, (i : Int) + 1, true)]) rfl rfl (one_grip wr t _ true) (flatG_one _) (by unfold maxLen; omega) (by omega) (by simp; omega) ?_; intro v2 w2 hown2 hgr2 hnil2; have HB2 := hid_t ((HB1.out.alloc hsz1 _).grown hgr2 (by simp; omega) (fun k hk => (HOWN.out.lt k hk).1)); have hsz2 := HB2.out.size; have HO2 := hid_t hown2; clear hown2 hgr2 hnil2)
                  | (refine wpList_append_own _ rfl (.tmp 52) (.tmp 57) 23 rfl w1.heap.size 40 j0 (.agg #[.int .i64 0, .int .i64 0, .bool false]) 3 24 Tryd.underlying23 GI.out.1 GI.out.2.1 GI.out.2.2.1 GI.out.2.2.2 rfl (by decide) v2 (ln + 1) (flatG E ++ flatG [(t, (i : Int) + 1, true)]) rfl (HO2.out.alloc _) ⟨w2.heap.size, 0, none⟩ 1 1 (flatG [(t, (i : Int), false)]) rfl rfl (by have := one_grip w2 t (i : Int) false; simpa using this) (flatG_one _) (by unfold maxLen; omega) (by omega) (by simp; omega) ?_; intro v3 w3 hown3 hgr3 hnil3; have HB3 := hid_t ((HB2.out.alloc hsz2 _).grown hgr3 (by simp; omega) (fun k hk => (HO2.out.lt k hk).1)); have HO3 := hid_t hown3; clear hown3 hgr3 hnil3))
                go_roundw
                case rel => exact ⟨i + 1, by omega, by go_num, by rw [HQ.out, List.length_append, List.length_append, HLN.out, flatG_append, flatG_append]; exact HO3.out, HB3.out⟩
                case measure => simp [intOf]; omega
              · have hi0' : ¬ (1 : Int) < (i : Int) + 1 := by omega
                have HQ : Hid (D ++ downTo t (i + 1) = E ++ [(t, (i : Int) + 1, true)]) := by show _ = _; rw [← HE.out, downTo, if_neg hi0]; simp
                go_wp2_with (at_builtin; refine wpList_append_own _ rfl (.tmp 44) (.tmp 48) 23 rfl w1.heap.size 40 j0 (.agg #[.int .i64 0, .int .i64 0, .bool false]) 3 24 Tryd.underlying23 GI.out.1 GI.out.2.1 GI.out.2.2.1 GI.out.2.2.2 rfl (by decide) u7 ln (flatG E) rfl (HOWN.out.alloc _) ⟨wr.heap.size, 0, none⟩ 1 1 (flatG [(t, (i : Int) + 1, true)]) rfl rfl (one_grip wr t _ true) (flatG_one _) (by unfold maxLen; omega) (by omega) (by simp; omega) ?_; intro v2 w2 hown2 hgr2 hnil2; have HB2 := hid_t ((HB1.out.alloc hsz1 _).grown hgr2 (by simp; omega) (fun k hk => (HOWN.out.lt k hk).1)); have HO2 := hid_t hown2; clear hown2 hgr2 hnil2)
                go_roundw
                case rel => exact ⟨i + 1, by omega, by go_num, by rw [HQ.out, List.length_append, HLN.out, flatG_append]; exact HO2.out, HB2.out⟩
                case measure => simp [intOf]; omega
            · have hi2' : ¬ (i : Int) + 1 ≤ (k : Int) := by omega
              obtain rfl : i = k := by omega
              have HQ : Hid (down2 i (m + 1) = E ++ [(t, (i : Int), false)]) := by show _ = _; rw [down2, HD.out, downAll, HT.out, ← HE.out]; simp
              go_wp2_with (at_builtin; refine wpList_append_own _ rfl (.tmp 59) (.tmp 63) 23 rfl w1.heap.size 40 j0 (.agg #[.int .i64 0, .int .i64 0, .bool false]) 3 24 Tryd.underlying23 GI.out.1 GI.out.2.1 GI.out.2.2.1 GI.out.2.2.2 rfl (by decide) u7 ln (flatG E) rfl (HOWN.out.alloc _) ⟨wr.heap.size, 0, none⟩ 1 1 (flatG [(t, (i : Int), false)]) rfl rfl (one_grip wr t _ false) (flatG_one _) (by unfold maxLen; omega) (by omega) (by simp; omega) ?_; intro v2 w2 hown2 hgr2 hnil2; have HB2 := hid_t ((HB1.out.alloc hsz1 _).grown hgr2 (by simp; omega) (fun k hk => (HOWN.out.lt k hk).1)); have HO2 := hid_t hown2; clear hown2 hgr2 hnil2)
              go_roundw
              case rel => exact ⟨m + 1, by omega, by rw [← HT.out]; go_num, by rw [HQ.out, List.length_append, HLN.out, flatG_append]; exact HO2.out, HB2.out⟩
              case measure => rw [← HT.out]; simp [intOf]; omega
        · have hm2' : ¬ (m : Int) + 1 ≤ 2 := by omega
          obtain rfl : m = 2 := by omega
          have HG := hid_t (isGrips_own HOWN.out rfl)
          have HC1 := hid_t (HLL.out wr _ _ (HU.out wr HB1.out) HG.out)
          obtain ⟨ad7, n7, c7, rfl⟩ : ∃ d n p, u7 = .slice d n p := by obtain ⟨a, _, _, c, h, _⟩ := HG.out; exact ⟨a, _, c, h⟩
          clear HOWN hm2
          go_wp2_with fail
          refine HC1.out.mono ?_
          rintro e w2 ⟨p, rfl, hb2⟩
          have HB2 : Hid (Below w1.heap.size w1 w2) := HB1.out.trans (hb2.mono HB1.out.size)
          have HC2 := hid_t (HEE.out w2 _ _ (HU.out w2 HB2.out) (HG.out.below hb2 (Nat.le_refl _)))
          clear hb2
          go_wp2_with fail
          refine HC2.out.mono ?_
          rintro e w3 ⟨b, o, c, rfl, c0, c1, hb3⟩
          have HB3 : Hid (Below w.heap.size w w3) := HB.out.trans ((HB2.out.trans (hb3.mono HB2.out.size)).mono HB.out.size)
          have hbl := World.block_lt_of_cell? w3 _ c0
          simp only at hbl
          clear hb3
          go_wp2_with fail
          go_ret
          exact ⟨rfl, HB3.out⟩
set_option maxHeartbeats 4000000 in
set_option maxRecDepth 100000 in
theorem tdown_out (hL : TLegalC) (n : Int) (w : World) (hg : EtAt w) (hn : n < 1 ∨ 6 < n) :
    Calls Tryd.prog 4 #[.int .i64 n] w fun e w' => e = .returned (.bool true) ∧ Below w.heap.size w w' := by
  have HLL : Hid (Calls Tryd.prog 9 #[.slice none 0 0, .slice none 0 0] w fun e w' => ∃ p, e = .returned (.tuple #[.int .i64 p, .iface 44 (.int .i64 1)]) ∧ Below w.heap.size w w') :=
    (hL [] [] _ _ w (isInts_nil w) (isGrips_nil w)).mono fun e w' ⟨he, hb⟩ => ⟨(gripsR [] []).1, by rw [he, nil_bad]; rfl, hb⟩
  have HER : Hid (∀ W, Below w.heap.size w W → Calls Tryd.prog 6 #[.iface 44 (.int .i64 1), .int .i64 1] W fun e w' => e = .returned (.bool true) ∧ Below W.heap.size W w') := fun W hW => (error_hit 1 1 W (hg.below hW hg.lt)).mono fun _ _ ⟨he, hb⟩ => ⟨by rw [he]; rfl, hb⟩
  clear hL hg
  by_cases h1 : n < 1
  · go_enter Tryd.func4, Tryd.ntmps4
    go_wp2_with fail
    refine HLL.out.mono ?_
    rintro e w1 ⟨p, rfl, hb1⟩
    have HB1 := hid_t hb1
    clear hb1
    go_wp2_with fail
    refine (HER.out w1 HB1.out).mono ?_
    rintro e w2 ⟨rfl, hb2⟩
    go_wp2_with fail
    go_ret
    exact ⟨rfl, HB1.out.trans (hb2.mono HB1.out.size)⟩
  · have h6 : (6 : Int) < n := by omega
    go_enter Tryd.func4, Tryd.ntmps4
    go_wp2_with fail
    refine HLL.out.mono ?_
    rintro e w1 ⟨p, rfl, hb1⟩
    have HB1 := hid_t hb1
    clear hb1
    go_wp2_with fail
    refine (HER.out w1 HB1.out).mono ?_
    rintro e w2 ⟨rfl, hb2⟩
    go_wp2_with fail
    go_ret
    exact ⟨rfl, HB1.out.trans (hb2.mono HB1.out.size)⟩
theorem tdown_any (hL : TLegalC) (hE : TEdgesC) (n : Int) (w : World) (hg : EtAt w) :
    Calls Tryd.prog 4 #[.int .i64 n] w fun e w' => e = .returned (.bool true) ∧ Below w.heap.size w w' := by
  by_cases h : n < 1 ∨ 6 < n
  · exact tdown_out hL n w hg h
  · obtain ⟨m, rfl⟩ : ∃ m : Nat, n = m := ⟨n.toNat, by omega⟩
    exact tdown_in hL hE m w (by omega) (by omega)
end Go.Proofs.YtmgadiopjofegaiDoor
