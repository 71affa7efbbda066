/-
  PROVED HERE: package tree's standBehind: how things stand behind some grips; else which of them is wrong first, and how. Old memory stays as it was.
  Conditions: none.
-/
import Derived.Test.YtmgadiopjofegaiDoorTSt3
import Derived.Test.YtmgadiopjofegaiDoorTCheck
namespace Go.Proofs.YtmgadiopjofegaiDoor
open Go.RowKit

theorem firstG_legTo {up : List Int} {l : List Grip3} {k : Nat} (h : firstG up l k = none) : LegTo up l k := firstG_none k h
theorem firstG_step {up : List Int} {l : List Grip3} {k : Nat} (h : firstG up l k = none) : firstG up l (k + 1) = if gripE up (stG l k) (gAt l k) ≠ 0 then some k else none := by
  show (match firstG up l k with | some i => some i | none => if badG up l k = true then some k else none) = _
  rw [h]
  simp [badG]
theorem firstG_stay {up : List Int} {l : List Grip3} {k i : Nat} (h : firstG up l k = some i) : ∀ d, firstG up l (k + d) = some i := by
  intro d
  induction d with
  | zero => exact h
  | succ d ih =>
    show (match firstG up l (k + d) with | some i => some i | none => _) = _
    rw [ih]
theorem LegTo.holder0 {up : List Int} {l : List Grip3} : ∀ k, LegTo up l k → (stG l k).holder 0 = 0 := by
  intro k
  induction k with
  | zero => intro _; rfl
  | succ k ih =>
    intro h
    have h0 := ih fun i hi => h i (by omega)
    have h1 := h k (by omega)
    show (stepG (stG l k) (gAt l k)).holder 0 = 0
    obtain ⟨⟨t, x, b⟩, hg⟩ : ∃ g, gAt l k = g := ⟨_, rfl⟩
    unfold badG at h1
    rw [hg] at h1 ⊢
    have hx : x ≠ 0 := by
      intro e
      unfold gripE at h1
      simp only at h1
      split at h1
      · cases h1
      · omega
    unfold stepG
    split
    · simp only; rw [setF_other _ _ (Ne.symm hx)]; exact h0
    · simp only; rw [setF_other _ _ (Ne.symm hx)]; exact h0
theorem tree_up {up : List Int} (h : treeE up = 0) : 1 ≤ up.length ∧ up.length ≤ 6 ∧ up.getD 0 0 = 0 ∧ ∀ y, y < up.length → 0 ≤ up.getD y 0 ∧ up.getD y 0 ≤ 6 := by
  have hT := treeOk_of h
  unfold treeE at h
  split at h
  · cases h
  · rename_i h1
    split at h
    · cases h
    · rename_i h2
      have h2' : up.getD 0 0 = 0 := by simpa using h2
      refine ⟨by omega, by omega, h2', fun y hy => ?_⟩
      by_cases hy0 : y = 0
      · subst hy0; omega
      · have h3 := hT ((y : Int) + 1) (by omega) (by omega)
        unfold upOf at h3
        rw [show ((y : Int) + 1 - 1).toNat = y by omega] at h3
        omega
theorem LegTo.had6 {up : List Int} {l : List Grip3} {k : Nat} (h : LegTo up l k) (hk : k ≤ l.length) {f x : Int} (hh : (stG l k).had f x = true) : 1 ≤ f ∧ f ≤ 6 := by
  obtain ⟨i, hi, hL⟩ := (had_iff l f x k hk).1 hh
  exact (h.lock hi hL).1
theorem ldStep_eq {up : List Int} {l : List Grip3} {k : Nat} (h : LegTo up l k) (hk : k ≤ l.length) (f t : Int) : ldG l (k + 1) f t = ldStep (stG l k) (ldG l k) (gAt l k) f t := by
  unfold ldStep
  show (if (gAt l k).2.2 = true then fun f t => (decide (t = (gAt l k).1) && (stG l k).had f (gAt l k).2.1) || ldG l k f t else ldG l k) f t = _
  split
  · unfold ldTo
    simp only
    cases hh : (stG l k).had f (gAt l k).2.1 with
    | false => simp
    | true =>
      have := h.had6 hk hh
      rw [decide_eq_true (show f < ((7 : Nat) : Int) by omega)]
      simp
  · rfl
theorem stand_fresh (w : World) (vu : Value) (M : Nat) (c : Array Value) (h : cells100 vu M (fun _ _ => false) (fun _ _ => false) = c) : StdAt (w.alloc (.cells c 62)) w.heap.size vu M (fun _ _ => false) (fun _ _ => false) := by
  unfold StdAt World.alloc
  simp [h]
def zero100 : Array Value := ((List.range 100).map fun k => if k = 0 then Value.slice none 0 0 else if k = 1 then .map none else .bool false).toArray
theorem stand_zero (W : World) : (zeroValue 62).run Tryd.prog W = .ok (.agg zero100) W := by kernel_rfl
theorem stand_set (vu : Value) (M : Nat) : (zero100.setIfInBounds 0 vu).setIfInBounds 1 (.map (some M)) = cells100 vu M (fun _ _ => false) (fun _ _ => false) := by kernel_rfl
theorem stand_made : ∃ Z : Array Value, (∀ W, (zeroValue 62).run Tryd.prog W = .ok (.agg Z) W) ∧ ¬ Z = #[] ∧ Z.size = 100 ∧ ∀ (vu : Value) (M : Nat), (Z.setIfInBounds 0 vu).setIfInBounds 1 (.map (some M)) = cells100 vu M (fun _ _ => false) (fun _ _ => false) :=
  ⟨zero100, stand_zero, fun h => by have := congrArg Array.size h; simp [zero100] at this, by simp [zero100], stand_set⟩
theorem gripsR_tree {up : List Int} {l : List Grip3} (h : treeE up ≠ 0) : gripsR up l = (0, treeE up) := by unfold gripsR; rw [if_pos h]
theorem gripsR_full {up : List Int} {l : List Grip3} (h : treeE up = 0) (hl : 40 < l.length) : gripsR up l = (0, 4) := by unfold gripsR; rw [if_neg (by simp [h]), if_pos hl]
theorem gripsR_some {up : List Int} {l : List Grip3} {k : Nat} (h : treeE up = 0) (hl : ¬ 40 < l.length) (hk : k < l.length) (hf : firstG up l k = none) (hb : gripE up (stG l k) (gAt l k) ≠ 0) : gripsR up l = ((k : Int), gripE up (stG l k) (gAt l k)) := by
  have h1 := firstG_step hf
  rw [if_pos hb] at h1
  have h2 := firstG_stay h1 (l.length - (k + 1))
  rw [show k + 1 + (l.length - (k + 1)) = l.length by omega] at h2
  unfold gripsR
  rw [if_neg (by simp [h]), if_neg hl, h2]
theorem gripsR_none {up : List Int} {l : List Grip3} (h : treeE up = 0) (hl : ¬ 40 < l.length) (hf : firstG up l l.length = none) : gripsR up l = (0, 0) := by
  unfold gripsR
  rw [if_neg (by simp [h]), if_neg hl, hf]
theorem std_zero {w : World} {B M : Nat} {vu : Value} {l : List Grip3} (hb : StdAt w B vu M (fun _ _ => false) (fun _ _ => false)) (hm : MapIs w M (fun _ => none) 0) (hne : B ≠ M) : Std w B M vu (stG l 0) (ldG l 0) := by
  refine ⟨hb, ⟨0, hm.congr fun x => ?_⟩, hne⟩
  show hmF (fun _ => 0) x = none
  unfold hmF
  rw [if_pos rfl]
/-- What standBehind tells. -/
def StandIs (up : List Int) (l : List Grip3) (vu : Value) (n : Nat) (e : Ending) (w' : World) : Prop :=
  ∃ vs, e = .returned (.tuple #[vs, .int .i64 (gripsR up l).1, errV (gripsR up l).2]) ∧ ((gripsR up l).2 = 0 → ∃ B M, vs = .pointer (some ⟨B, 0, none⟩) ∧ n ≤ B ∧ n ≤ M ∧ LegTo up l l.length ∧ Std w' B M vu (stG l l.length) (ldG l l.length))
set_option maxHeartbeats 8000000 in
set_option maxRecDepth 100000 in
theorem stand_fn (up : List Int) (l : List Grip3) (vu vl : Value) (w : World) (hU : IsInts w vu up) (hG : IsGrips w vl l) :
    Calls Tryd.prog 15 #[vu, vl] w fun e w' => StandIs up l vu w.heap.size e w' ∧ Below w.heap.size w w' := by
  have HU := hid_r hU
  obtain ⟨ad0, b0, off0, cap0, rfl, -⟩ := hU
  have HG := hid_r hG
  obtain ⟨ad, b, off, cap, rfl, ha, -, hbB, hc⟩ := hG
  have HC := hid_r (tcheck_any up _ w HU.out)
  obtain ⟨N0, hN0⟩ : ∃ n, up.length = n := ⟨_, rfl⟩
  obtain ⟨N, hN⟩ : ∃ n, l.length = n := ⟨_, rfl⟩
  have HN := hid_r hN
  have HN0 := hid_r hN0
  have HE : Hid (∀ W k, Below w.heap.size w W → k < N → ad = some ⟨b, off, none⟩ ∧ b < W.heap.size ∧ W.cell? ⟨b, off + k * 3, none⟩ = some (.int .i64 (gAt l k).1) ∧ W.cell? ⟨b, off + k * 3 + 1, none⟩ = some (.int .i64 (gAt l k).2.1) ∧ W.cell? ⟨b, off + k * 3 + 2, none⟩ = some (.bool (gAt l k).2.2)) := fun W k hW hk => by
    have hk' : k < l.length := by omega
    have hb : b < w.heap.size := by
      rcases hbB with h | h
      · exact h
      · rw [h] at hk'; cases hk'
    obtain ⟨e0, e1, e2⟩ := hc k hk'
    exact ⟨ha (by omega), Nat.lt_of_lt_of_le hb hW.size, (hW.cell (p := ⟨b, off + k * 3, none⟩) hb).trans e0, (hW.cell (p := ⟨b, off + k * 3 + 1, none⟩) hb).trans e1, (hW.cell (p := ⟨b, off + k * 3 + 2, none⟩) hb).trans e2⟩
  rw [hN0] at HC
  rw [hN0, hN]
  clear hc ha hbB HG hN hN0
  by_cases ht : treeE up = 0
  · have HT := hid_r ht
    rw [ht, errV_zero] at HC
    by_cases hl : 40 < N
    · have hl' : (40 : Int) < (N : Int) := by omega
      have HR := hid_r (gripsR_full (l := l) ht (by rw [HN.out]; exact hl))
      clear ht HE
      go_enter Tryd.func15, Tryd.ntmps15
      go_wp2_with fail
      refine HC.out.mono ?_
      rintro e w1 ⟨rfl, hb1⟩
      have HB1 := hid_r hb1
      clear hb1
      go_wp2_with fail
      go_ret3
      exact ⟨⟨.pointer none, by rw [HR.out]; rfl, fun e => by rw [HR.out] at e; cases e⟩, HB1.out ▸ Below.refl _ _⟩
    · have hl' : ¬ (40 : Int) < (N : Int) := by omega
      have hup := tree_up ht
      rw [HN0.out] at hup
      have HU0 := hid_r hup
      have HTK : Hid (∀ (B M k : Nat) (W : World), k < N → firstG up l k = none → Below w.heap.size w W → Std W B M (.slice ad0 N0 cap0) (stG l k) (ldG l k) →
          Calls Tryd.prog 19 #[.pointer (some ⟨B, 0, none⟩), .agg #[.int .i64 (gAt l k).1, .int .i64 (gAt l k).2.1, .bool (gAt l k).2.2]] W fun e w' => e = .returned (errV (gripE up (stG l k) (gAt l k))) ∧ (gripE up (stG l k) (gAt l k) = 0 → firstG up l (k + 1) = none ∧ Std w' B M (.slice ad0 N0 cap0) (stG l (k + 1)) (ldG l (k + 1))) ∧ (gripE up (stG l k) (gAt l k) ≠ 0 → gripsR up l = ((k : Int), gripE up (stG l k) (gAt l k))) ∧ Turns (fun k => k = B ∨ k = M) W w') := fun B M k W hk hf hW hS => by
        have hL := firstG_legTo hf
        have hkl : k ≤ l.length := by have := HN.out; omega
        have hI : IsInts W (.slice ad0 N0 cap0) up := by have := HU.out.below hW (Nat.le_refl _); rw [HN0.out] at this; exact this
        refine (take_fn B M (stG l k) (ldG l k) up (gAt l k).1 (gAt l k).2.1 (gAt l k).2.2 _ W hS hI (by rw [HN0.out]; exact HU0.out.2.1) (LegTo.holder0 k hL) HU0.out.2.2.1 (by rw [HN0.out]; exact HU0.out.2.2.2) (fun t h1 h6 => ?_)).mono ?_
        · have h1 := hL.first hkl (by rw [HN0.out]; exact HU0.out.2.1) t
          rw [Bool.eq_iff_iff, h1, any7_iff]
        · rintro e w' ⟨he, hs, htn⟩
          refine ⟨he, fun h0 => ⟨by rw [firstG_step hf, if_neg (by simpa using h0)], (hs h0).congr fun i j => ldStep_eq hL hkl _ _⟩, fun hn => gripsR_some HT.out (by rw [HN.out]; exact hl) (by rw [HN.out]; exact hk) hf hn, htn⟩
      have HRN : Hid (firstG up l N = none → gripsR up l = (0, 0)) := fun hf => gripsR_none HT.out (by rw [HN.out]; exact hl) (by rw [HN.out]; exact hf)
      have HF0 : Hid (firstG up l 0 = none) := rfl
      have hmm := @run_makeMap Tryd.prog
      obtain ⟨Z, hZ1, hZ2, hZ3, hZ4⟩ := stand_made
      clear ht hup HU HT HU0 hl
      go_enter Tryd.func15, Tryd.ntmps15
      go_wp2_with fail
      refine HC.out.mono ?_
      rintro e w1 ⟨rfl, hw1⟩
      rw [hw1]
      clear hw1
      go_wp2_with fail
      go_loopw [27] (fun v27 wr => ∃ k : Nat, k ≤ N ∧ v27 = .int .i64 k ∧ firstG up l k = none ∧ Std wr (w.heap.size + 1) w.heap.size (.slice ad0 N0 cap0) (stG l k) (ldG l k) ∧ Below w.heap.size w wr) (fun v27 _ => N - (intOf v27).toNat)
      case atStart =>
        refine ⟨0, Nat.zero_le _, rfl, HF0.out, ?_, ((Below.refl _ w).alloc (Nat.le_refl _) _).alloc (by simp) _⟩
        have h1 := mapIs_made w
        have h2 := stand_fresh (w.alloc (.map #[] 0)) (.slice ad0 N0 cap0) w.heap.size _ rfl
        rw [show (w.alloc (.map #[] 0)).heap.size = w.heap.size + 1 by simp] at h2
        refine std_zero h2 (h1.turn ((Turns.refl (fun _ => False) _).alloc _) id) (by omega)
      case round =>
        obtain ⟨k, hk, rfl, hf, hst, hbel⟩ := hrel
        have HF := hid_r hf
        have HS := hid_r hst
        have HB := hid_r hbel
        clear hf hst hbel
        by_cases hlt : k < N
        · have hlt' : (k : Int) < (N : Int) := by omega
          obtain ⟨rfl, hbw, e0, e1, e2⟩ := HE.out wr k HB.out hlt
          have HBX : Hid (∀ o, Below w.heap.size w (wr.alloc o)) := fun o => HB.out.alloc HB.out.size o
          have HC2 : Hid (∀ o, Calls Tryd.prog 19 #[.pointer (some ⟨w.heap.size + 1, 0, none⟩), .agg #[.int .i64 (gAt l k).1, .int .i64 (gAt l k).2.1, .bool (gAt l k).2.2]] (wr.alloc o) fun e w' => e = .returned (errV (gripE up (stG l k) (gAt l k))) ∧ (gripE up (stG l k) (gAt l k) = 0 → firstG up l (k + 1) = none ∧ Std w' (w.heap.size + 1) w.heap.size (.slice ad0 N0 cap0) (stG l (k + 1)) (ldG l (k + 1))) ∧ (gripE up (stG l k) (gAt l k) ≠ 0 → gripsR up l = ((k : Int), gripE up (stG l k) (gAt l k))) ∧ Below w.heap.size w w') := fun o => by
            have hsz := HB.out.size
            refine (HTK.out _ _ k _ hlt HF.out (HBX.out o) (HS.out.later ((Below.refl _ wr).alloc (Nat.le_refl _) o))).mono ?_
            rintro e w' ⟨h1, h2, h3, h4⟩
            exact ⟨h1, h2, h3, (HBX.out o).trans (h4.below (by simp; omega) fun j hj => by omega)⟩
          obtain ⟨g0, hg0⟩ : ∃ g, (gAt l k).1 = g := ⟨_, rfl⟩
          obtain ⟨g1, hg1⟩ : ∃ g, (gAt l k).2.1 = g := ⟨_, rfl⟩
          obtain ⟨g2, hg2⟩ : ∃ g, (gAt l k).2.2 = g := ⟨_, rfl⟩
          obtain ⟨E, hE⟩ : ∃ E, gripE up (stG l k) (gAt l k) = E := ⟨_, rfl⟩
          rw [hg0, hg1, hg2, hE] at HC2
          rw [hg0] at e0
          rw [hg1] at e1
          rw [hg2] at e2
          clear hg0 hg1 hg2 hE HS HF
          by_cases hE0 : E = 0
          · subst hE0
            rw [errV_zero] at HC2
            go_wp2_with fail
            refine (HC2.out _).mono ?_
            rintro e w1 ⟨rfl, h1, h2, h3⟩
            have H1 := hid_r (h1 (by trivial))
            have H3 := hid_r h3
            clear h1 h2 h3
            go_wp2_with fail
            go_roundw
            case rel => exact ⟨k + 1, by omega, by go_num, H1.out.1, H1.out.2, H3.out⟩
            case measure => simp [intOf]; omega
          · rw [errV_ne hE0] at HC2
            go_wp2_with fail
            refine (HC2.out _).mono ?_
            rintro e w1 ⟨rfl, h1, h2, h3⟩
            have H1 := hid_r (h2 hE0)
            have H3 := hid_r h3
            have HE0 := hid_r hE0
            clear h1 h2 h3 hE0
            go_wp2_with fail
            go_ret3
            exact ⟨⟨.pointer none, by rw [H1.out, errV_ne HE0.out]; rfl, fun e => by rw [H1.out] at e; exact absurd e HE0.out⟩, H3.out⟩
        · have hlt' : ¬ (k : Int) < (N : Int) := by omega
          have hkN : k = N := by omega
          have HR := hid_r (HRN.out (by rw [← hkN]; exact HF.out))
          have HX : Hid (LegTo up l l.length ∧ Std wr (w.heap.size + 1) w.heap.size (.slice ad0 N0 cap0) (stG l l.length) (ldG l l.length)) := by
            have h1 : l.length = k := by rw [HN.out, hkN]
            show _ ∧ _
            rw [h1]
            exact ⟨firstG_legTo HF.out, HS.out⟩
          clear hkN
          go_wp2_with fail
          go_ret3
          exact ⟨⟨_, by rw [HR.out]; rfl, fun _ => ⟨_, _, rfl, by omega, by omega, HX.out.1, HX.out.2⟩⟩, HB.out⟩
  · have HR := hid_r (gripsR_tree (l := l) ht)
    have HT := hid_r ht
    obtain ⟨E, hE⟩ : ∃ E, treeE up = E := ⟨_, rfl⟩
    rw [hE] at HC HR HT ht
    rw [errV_ne ht] at HC
    clear ht HE hE
    go_enter Tryd.func15, Tryd.ntmps15
    go_wp2_with fail
    refine HC.out.mono ?_
    rintro e w1 ⟨rfl, hb1⟩
    have HB1 := hid_r hb1
    clear hb1
    go_wp2_with fail
    go_ret3
    exact ⟨⟨.pointer none, by rw [HR.out, errV_ne HT.out]; rfl, fun e => by rw [HR.out] at e; exact absurd e HT.out⟩, HB1.out ▸ Below.refl _ _⟩
end Go.Proofs.YtmgadiopjofegaiDoor
