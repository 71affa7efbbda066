/-
  PROVED HERE: laneref2.Grips, the document's own answer, tells which grip on a tree is wrong, and how (gripsR). Old memory stays as it was.
  Conditions: none.
-/
import Derived.Test.YtmgadiopjofegaiDoorRefTree
import Derived.Test.YtmgadiopjofegaiDoorMatT
import Derived.Test.YtmgadiopjofegaiDoorGraphBools
import Derived.Test.YtmgadiopjofegaiDoorRefGraph
namespace Go.Proofs.YtmgadiopjofegaiDoor
open Go.RowKit

theorem firstG_hit {up : List Int} {l : List Grip3} {i : Nat} (h1 : ∀ j, j < i → badG up l j = false) (h2 : badG up l i = true) : ∀ n, i < n → firstG up l n = some i := by
  intro n
  induction n with
  | zero => intro h; omega
  | succ n ih =>
    intro hn
    have none_of : ∀ m, m ≤ i → firstG up l m = none := fun m => by
      induction m with
      | zero => intro _; rfl
      | succ m ihm => intro hm; unfold firstG; rw [ihm (by omega)]; simp only; rw [if_neg (by rw [h1 m (by omega)]; decide)]
    unfold firstG
    rcases Nat.lt_or_ge i n with e | e
    · rw [ih e]
    · rw [none_of n (by omega)]
      simp only
      rw [show n = i by omega, if_pos h2]
theorem firstG_free {up : List Int} {l : List Grip3} : ∀ n, (∀ j, j < n → badG up l j = false) → firstG up l n = none := by
  intro n
  induction n with
  | zero => intro _; rfl
  | succ n ih => intro h; unfold firstG; rw [ih fun j hj => h j (by omega)]; simp only; rw [if_neg (by rw [h n (by omega)]; decide)]
/-- How things stand in memory. -/
structure GrSt (w wr : World) (H D F : Nat) (s : Gst) : Prop where
  hold : ∀ k : Nat, k < 7 → wr.cell? ⟨H, k, none⟩ = some (.int .i64 (s.holder (k : Int))) ∧ wr.frozen? ⟨H, k, none⟩ = false
  had : MatT 48 wr D (fun i k => s.had (i : Int) (k : Int))
  fst : BoolsAt wr F 7 (fun k => s.first (k : Int))
  old : Below w.heap.size w wr
  newH : w.heap.size ≤ H
  newD : w.heap.size ≤ D
  newF : w.heap.size ≤ F
  hd : H ≠ D
  hf : H ≠ F
  df : D ≠ F
section
variable {w wr w1 : World} {H D F : Nat} {s : Gst}
theorem GrSt.ltH (h : GrSt w wr H D F s) : H < wr.heap.size := World.block_lt_of_cell? wr _ (h.hold 0 (by omega)).1
theorem GrSt.later (h : GrSt w wr H D F s) (hb : Below wr.heap.size wr w1) : GrSt w w1 H D F s :=
  ⟨fun k hk => by
    have hl := hb.block H h.ltH
    rw [World.cell?_of_block (w := wr) (a := ⟨H, k, none⟩) hl, World.frozen?_of_block (w := wr) (a := ⟨H, k, none⟩) hl]
    exact h.hold k hk, h.had.below hb h.had.lt, h.fst.below hb (h.fst.lt (by omega)), h.old.trans (hb.mono h.old.size), h.newH, h.newD, h.newF, h.hd, h.hf, h.df⟩
theorem setF_cast {α : Type} (f : Int → α) (m k : Nat) (x : α) : setF f (m : Int) x (k : Int) = if k = m then x else f (k : Int) := by
  unfold setF
  by_cases e : k = m
  · subst e; rw [if_pos rfl, if_pos rfl]
  · rw [if_neg (by omega), if_neg e]
theorem GrSt.setH (h : GrSt w wr H D F s) {m : Nat} (hm : m < 7) (x : Int) : GrSt w (wr.setCell ⟨H, m, none⟩ (.int .i64 x)) H D F { s with holder := setF s.holder (m : Int) x } :=
  ⟨fun k hk => by
    rw [World.frozen?_setCell]
    refine ⟨?_, (h.hold k hk).2⟩
    show _ = some (Value.int .i64 (setF s.holder (m : Int) x (k : Int)))
    rw [setF_cast]
    by_cases e : k = m
    · subst e; rw [if_pos rfl]; exact World.cell?_setCell_same _ _ _ (h.hold k hk).1
    · rw [if_neg e, World.cell?_setCell_other _ _ _ _ (by simp <;> omega)]; exact (h.hold k hk).1, h.had.far _ (fun e => h.hd e.symm), h.fst.far _ h.hf, h.old.setCell h.newH _, h.newH, h.newD, h.newF, h.hd, h.hf, h.df⟩
theorem GrSt.setD (h : GrSt w wr H D F s) {t m : Nat} (ht : t < 7) (hm : m < 7) : GrSt w (wr.setCell ⟨D, t * 7 + m, none⟩ (.bool true)) H D F { s with had := setF s.had (t : Int) (setF (s.had (t : Int)) (m : Int) true) } := by
  refine ⟨fun k hk => ?_, (h.had.set hm).congr ?_, h.fst.far _ h.df, h.old.setCell h.newD _, h.newH, h.newD, h.newF, h.hd, h.hf, h.df⟩
  · rw [World.frozen?_setCell, World.cell?_setCell_other _ _ _ _ (by intro e; exact h.hd (congrArg Addr.block e).symm)]
    exact h.hold k hk
  · funext i k
    show setM _ t m i k = setF s.had (t : Int) (setF (s.had (t : Int)) (m : Int) true) (i : Int) (k : Int)
    unfold setM
    rw [setF_cast]
    by_cases e1 : i = t
    · subst e1
      rw [if_pos rfl, setF_cast]
      by_cases e2 : k = m
      · subst e2; rw [if_pos rfl, if_pos ⟨rfl, rfl⟩]
      · rw [if_neg e2, if_neg (fun e => e2 e.2)]
    · rw [if_neg e1, if_neg (fun e => e1 e.1)]
theorem GrSt.setFst (h : GrSt w wr H D F s) {t : Nat} (ht : t < 7) : GrSt w (wr.setCell ⟨F, t, none⟩ (.bool true)) H D F { s with first := setF s.first (t : Int) true } := by
  refine ⟨fun k hk => ?_, h.had.far _ h.df, (h.fst.set true ht).congr fun k hk => ?_, h.old.setCell h.newF _, h.newH, h.newD, h.newF, h.hd, h.hf, h.df⟩
  · rw [World.frozen?_setCell, World.cell?_setCell_other _ _ _ _ (by intro e; exact h.hf (congrArg Addr.block e).symm)]
    exact h.hold k hk
  · show setS _ t true k = setF s.first (t : Int) true (k : Int)
    rw [setF_cast]
    rfl
theorem GrSt.drew (h : GrSt w wr H D F s) : GrSt w wr.drew H D F s := h.later (Below.refl _ wr).drew
end
theorem gr_start (w : World) (c1 : Array Value) (h1 : cells49 (fun _ _ => false) = c1) (T0 T2 : TypeId) : GrSt w (((w.alloc (.cells #[.int .i64 0, .int .i64 0, .int .i64 0, .int .i64 0, .int .i64 0, .int .i64 0, .int .i64 0] T0)).alloc (.cells c1 48)).alloc (.cells #[.bool false, .bool false, .bool false, .bool false, .bool false, .bool false, .bool false] T2)) w.heap.size (w.heap.size + 1) (w.heap.size + 1 + 1) gst0 := by
  obtain ⟨W1, hW1⟩ : ∃ W, W = w.alloc (.cells #[.int .i64 0, .int .i64 0, .int .i64 0, .int .i64 0, .int .i64 0, .int .i64 0, .int .i64 0] T0) := ⟨_, rfl⟩
  have s1 : W1.heap.size = w.heap.size + 1 := by rw [hW1]; simp
  have hb1 : Below w.heap.size w W1 := by rw [hW1]; exact (Below.refl _ w).alloc (Nat.le_refl _) _
  have hc : ∀ k : Nat, k < 7 → W1.cell? ⟨w.heap.size, k, none⟩ = some (.int .i64 0) ∧ W1.frozen? ⟨w.heap.size, k, none⟩ = false := fun k hk => by
    rw [hW1, World.cell?_alloc_new, World.frozen?_alloc_new]
    refine ⟨?_, rfl⟩
    rcases (show k = 0 ∨ k = 1 ∨ k = 2 ∨ k = 3 ∨ k = 4 ∨ k = 5 ∨ k = 6 by omega) with h | h | h | h | h | h | h <;> subst h <;> rfl
  rw [← hW1]
  obtain ⟨W2, hW2⟩ : ∃ W, W = W1.alloc (.cells c1 48) := ⟨_, rfl⟩
  have s2 : W2.heap.size = w.heap.size + 1 + 1 := by rw [hW2]; simp [s1]
  have hm : MatT 48 W2 (w.heap.size + 1) (fun _ _ => false) := by rw [hW2, ← s1]; exact matT_fresh _ W1 c1 h1
  have hb2 : Below W1.heap.size W1 W2 := by rw [hW2]; exact (Below.refl _ W1).alloc (Nat.le_refl _) _
  rw [← hW2]
  have hbo := bools7_new W2 (fun _ => false) T2
  rw [s2] at hbo
  obtain ⟨W3, hW3⟩ : ∃ W, W = W2.alloc (.cells #[.bool false, .bool false, .bool false, .bool false, .bool false, .bool false, .bool false] T2) := ⟨_, rfl⟩
  have hb3 : Below W2.heap.size W2 W3 := by rw [hW3]; exact (Below.refl _ W2).alloc (Nat.le_refl _) _
  rw [← hW3] at hbo ⊢
  have hb13 : Below W1.heap.size W1 W3 := hb2.trans (hb3.mono (by omega))
  refine ⟨fun k hk => ?_, hm.below hb3 (by omega), hbo, hb1.trans (hb13.mono (by omega)), Nat.le_refl _, by omega, by omega, by omega, by omega, by omega⟩
  have hl := hb13.block w.heap.size (by omega)
  rw [World.cell?_of_block (w := W1) (a := ⟨w.heap.size, k, none⟩) hl, World.frozen?_of_block (w := W1) (a := ⟨w.heap.size, k, none⟩) hl]
  exact hc k hk
/-- What a grip comes to, piece by piece. -/
theorem gE_range {up : List Int} {s : Gst} {t x : Int} {b : Bool} (h : dealB t = false ∨ x < 1 ∨ (up.length : Int) < x) : gripE up s (t, x, b) = 1 := by
  unfold gripE
  rw [if_pos]
  simp only
  rcases h with h | h | h
  · left
    unfold dealB at h
    simp at h
    omega
  · exact .inr (.inl h)
  · exact .inr (.inr h)
theorem gE_in {up : List Int} {s : Gst} {t x : Int} {b : Bool} (h1 : dealB t = true) (h2 : 1 ≤ x) (h3 : x ≤ up.length) : gripE up s (t, x, b) = if b = false then (if s.holder x ≠ t then 5 else 0) else if s.holder x ≠ 0 then 7 else if s.had t x = true ∨ (s.first t = true ∧ (x = 1 ∨ s.holder (upOf up x) ≠ t)) then 6 else 0 := by
  unfold gripE
  rw [if_neg]
  have := dealB_iff.1 h1
  simp only
  omega
set_option maxHeartbeats 32000000 in
set_option maxRecDepth 100000 in
theorem refGrips_any (up : List Int) (l : List Grip3) (vu vl : Value) (w : World) (hU : IsInts w vu up) (hI : IsGrips w vl l) :
    Calls Tryd.prog 8 #[vu, vl] w fun e w' => e = .returned (.tuple #[.int .i64 (gripsR up l).1, .int .i64 (gripsR up l).2]) ∧ Below w.heap.size w w' := by
  have HTR := hid_r (refTree_any up vu w hU)
  obtain ⟨adu, bu, offu, capu, rfl, hau, -, hbBu, hcu⟩ := hU
  obtain ⟨adl, bl, offl, capl, rfl, hal, -, hbBl, hcl⟩ := hI
  have HEU : Hid (∀ W, Below w.heap.size w W → ∀ k, k < up.length → adu = some ⟨bu, offu, none⟩ ∧ bu < W.heap.size ∧ W.cell? ⟨bu, offu + k, none⟩ = some (.int .i64 (up.getD k 0))) := fun W hW k hk => by
    have hlt : bu < w.heap.size := by
      rcases hbBu with h | h
      · exact h
      · subst h; simp at hk
    exact ⟨hau (by omega), Nat.lt_of_lt_of_le hlt hW.size, (hW.cell (p := ⟨bu, offu + k, none⟩) hlt).trans (hcu k hk)⟩
  have HEL : Hid (∀ W, Below w.heap.size w W → ∀ k, k < l.length → adl = some ⟨bl, offl, none⟩ ∧ bl < W.heap.size ∧ W.cell? ⟨bl, offl + k * 3, none⟩ = some (.int .i64 (gAt l k).1) ∧ W.cell? ⟨bl, offl + k * 3 + 1, none⟩ = some (.int .i64 (gAt l k).2.1) ∧ W.cell? ⟨bl, offl + k * 3 + 2, none⟩ = some (.bool (gAt l k).2.2)) := fun W hW k hk => by
    have hlt : bl < w.heap.size := by
      rcases hbBl with h | h
      · exact h
      · subst h; cases hk
    obtain ⟨c0, c1, c2⟩ := hcl k hk
    exact ⟨hal (by omega), Nat.lt_of_lt_of_le hlt hW.size, (hW.cell (p := ⟨bl, offl + k * 3, none⟩) hlt).trans c0, (hW.cell (p := ⟨bl, offl + k * 3 + 1, none⟩) hlt).trans c1, (hW.cell (p := ⟨bl, offl + k * 3 + 2, none⟩) hlt).trans c2⟩
  clear hau hbBu hcu hal hbBl hcl
  by_cases ht : treeE up = 0
  · by_cases h40 : 40 < l.length
    · have HG : Hid (gripsR up l = (0, 4)) := by show _ = _; unfold gripsR; rw [if_neg (by simpa using ht), if_pos h40]
      have h40' : (40 : Int) < (l.length : Int) := by omega
      rw [ht] at HTR
      clear ht h40 HEU HEL
      go_enter Tryd.func8, Tryd.ntmps8
      go_wp2_with fail
      refine HTR.out.mono ?_
      rintro e w1 ⟨rfl, hw1⟩
      rw [hw1]
      clear hw1
      go_wp2_with fail
      go_ret2
      exact ⟨by rw [HG.out]; rfl, Below.refl _ _⟩
    · have hTO := treeOk_of ht
      have hn6 : 1 ≤ up.length ∧ up.length ≤ 6 := by
        unfold treeE at ht
        split at ht
        · cases ht
        · omega
      have HGR : Hid (∀ i e, i < l.length → (∀ j, j < i → badG up l j = false) → e ≠ 0 → gripE up (stG l i) (gAt l i) = e → gripsR up l = ((i : Int), e)) := fun i e hi hb he hg => by
        unfold gripsR
        rw [if_neg (by simpa using ht), if_neg h40, firstG_hit hb (by unfold badG; rw [hg]; simpa using he) _ hi]
        simp only
        rw [hg]
      have HGN : Hid ((∀ j, j < l.length → badG up l j = false) → gripsR up l = (0, 0)) := fun hb => by
        unfold gripsR
        rw [if_neg (by simpa using ht), if_neg h40, firstG_free _ hb]
      have HNB : Hid (∀ i, (∀ j, j < i → badG up l j = false) → gripE up (stG l i) (gAt l i) = 0 → ∀ j, j < i + 1 → badG up l j = false) := fun i hb hg j hj => by
        rcases Nat.lt_or_ge j i with e | e
        · exact hb j e
        · rw [show j = i by omega]; unfold badG; rw [hg]; rfl
      have HTO := hid_r hTO
      rw [ht] at HTR
      obtain ⟨n, hn⟩ : ∃ n, up.length = n := ⟨_, rfl⟩
      obtain ⟨m, hm⟩ : ∃ m, l.length = m := ⟨_, rfl⟩
      have HLN : Hid (up.length = n ∧ l.length = m) := ⟨hn, hm⟩
      rw [hn] at HTR HEU hn6
      rw [hm] at HEL HGR HGN h40
      rw [hn, hm]
      have h40' : ¬ (40 : Int) < (m : Int) := by omega
      clear ht hTO hn hm
      go_enter Tryd.func8, Tryd.ntmps8
      go_wp2_with fail
      refine HTR.out.mono ?_
      rintro e w1 ⟨rfl, hw1⟩
      rw [hw1]
      clear hw1
      go_wp2_with fail
      go_loopw [10] (fun v10 wr => ∃ i : Nat, i ≤ m ∧ v10 = .int .i64 i ∧ (∀ j, j < i → badG up l j = false) ∧ GrSt w wr w.heap.size (w.heap.size + 1) (w.heap.size + 1 + 1) (stG l i)) (fun v10 _ => m - (intOf v10).toNat)
      case atStart => exact ⟨0, Nat.zero_le _, rfl, fun j hj => absurd hj (by omega), gr_start w _ rfl _ _⟩
      case round =>
        obtain ⟨i, hi, rfl, hnb, hst⟩ := hrel
        have HNX := hid_r hnb
        have HS := hid_r hst
        clear hnb hst
        by_cases hlt : i < m
        · have hlt' : (i : Int) < (m : Int) := by omega
          have hi0 : (0 : Int) ≤ (i : Int) := by omega
          have hin : ¬ (i : Int) < 0 := by omega
          obtain ⟨rfl, hbw, c0, c1, c2⟩ := HEL.out wr HS.out.old i hlt
          have HRE := hid_r (fun e he hg => HGR.out i e hlt HNX.out he hg)
          have HGO := hid_r (HNB.out i HNX.out)
          have hsn : stG l (i + 1) = stepG (stG l i) (gAt l i) := rfl
          obtain ⟨⟨t, x, b⟩, hg⟩ : ∃ g, gAt l i = g := ⟨_, rfl⟩
          obtain ⟨s, hs⟩ : ∃ s, stG l i = s := ⟨_, rfl⟩
          rw [hg, hs] at HRE HGO hsn
          rw [hs] at HS
          rw [hg] at c0 c1 c2
          simp only at c0 c1 c2
          have HSN := hid_r hsn
          clear hg hs hsn
          go_upto_region 13 with (fail)
          obtain ⟨W1, hW1⟩ : ∃ W, W = wr.alloc (.cells #[.int .i64 t, .int .i64 x, .bool b] 40) := ⟨_, rfl⟩
          rw [← hW1]
          have hbn : Below wr.heap.size wr W1 := by rw [hW1]; exact (Below.refl _ wr).alloc (Nat.le_refl _) _
          have p0 : W1.cell? ⟨wr.heap.size, 0, none⟩ = some (.int .i64 t) := by rw [hW1]; simp
          have p1 : W1.cell? ⟨wr.heap.size, 1, none⟩ = some (.int .i64 x) := by rw [hW1]; simp
          have p2 : W1.cell? ⟨wr.heap.size, 2, none⟩ = some (.bool b) := by rw [hW1]; simp
          have HS1 := hid_r (HS.out.later hbn)
          have HB1 := hid_r HS1.out.old
          have hPH : wr.heap.size ≠ w.heap.size := by have := HS.out.ltH; omega
          have hPD : wr.heap.size ≠ w.heap.size + 1 := by have := HS.out.had.lt; omega
          have hPF : wr.heap.size ≠ w.heap.size + 1 + 1 := by have := HS.out.fst.lt (by omega); omega
          obtain ⟨P, hP⟩ : ∃ P, P = wr.heap.size := ⟨_, rfl⟩
          rw [← hP] at p0 p1 p2 hPH hPD hPF ⊢
          have hPW := World.block_lt_of_cell? W1 _ p0
          simp only at hPW
          clear hW1 hbn hP HS c0 c1 c2 hbw
          cases hdl : dealB t with
          | false =>
            have HG := hid_r (HRE.out 1 (by decide) (gE_range (.inl hdl)))
            go_wp2_with fail
            refine (gTx_any t W1).mono ?_
            rintro e w2 ⟨rfl, hw2⟩
            rw [hw2, hdl]
            clear hw2
            go_wp2_with fail
            go_ret2
            exact ⟨by rw [HG.out]; rfl, HB1.out⟩
          | true =>
            by_cases hx1 : x < 1
            · have HG := hid_r (HRE.out 1 (by decide) (gE_range (.inr (.inl hx1))))
              go_wp2_with fail
              refine (gTx_any t W1).mono ?_
              rintro e w2 ⟨rfl, hw2⟩
              rw [hw2, hdl]
              clear hw2
              go_wp2_with fail
              go_ret2
              exact ⟨by rw [HG.out]; rfl, HB1.out⟩
            · by_cases hxn : (n : Int) < x
              · have HG := hid_r (HRE.out 1 (by decide) (gE_range (.inr (.inr (by rw [HLN.out.1]; exact hxn)))))
                go_wp2_with fail
                refine (gTx_any t W1).mono ?_
                rintro e w2 ⟨rfl, hw2⟩
                rw [hw2, hdl]
                clear hw2
                go_wp2_with fail
                go_ret2
                exact ⟨by rw [HG.out]; rfl, HB1.out⟩
              · have hgi := gE_in (up := up) (s := s) (b := b) hdl (show 1 ≤ x by omega) (by rw [HLN.out.1]; omega)
                rw [hgi] at HRE HGO
                have hd6 := dealB_iff.1 hdl
                obtain ⟨tn, rfl⟩ : ∃ k : Nat, t = k := ⟨t.toNat, by omega⟩
                obtain ⟨xn, rfl⟩ : ∃ k : Nat, x = k := ⟨x.toNat, by omega⟩
                have HTX := hid_r (gTx_any (tn : Int) W1)
                rw [hdl] at HTX
                have ht7 : (tn : Int) < 7 := by omega
                have ht0 : ¬ (tn : Int) < 0 := by omega
                have hx7 : (xn : Int) < 7 := by omega
                have hx0 : ¬ (xn : Int) < 0 := by omega
                have htn : tn < 7 := by omega
                have hxn7 : xn < 7 := by omega
                obtain ⟨q0, y0⟩ := HS1.out.hold xn hxn7
                obtain ⟨hv, hhv⟩ : ∃ v, s.holder (xn : Int) = v := ⟨_, rfl⟩
                rw [hhv] at q0
                rw [hhv] at HRE HGO
                have HHV := hid_r hhv
                clear hdl hgi hhv
                cases b with
                | false =>
                  rw [if_pos rfl] at HRE HGO
                  by_cases hq : hv = (tn : Int)
                  · rw [if_neg (by simpa using hq)] at HGO
                    have HN := hid_r (HGO.out rfl)
                    have hq' : (hv != (tn : Int)) = false := by simpa using hq
                    have HS2 : Hid (∀ nq, GrSt w (W1.drewN nq) w.heap.size (w.heap.size + 1) (w.heap.size + 1 + 1) s) := fun nq => HS1.out.later (below_drewN (Below.refl _ _) _)
                    clear hq HRE HGO
                    go_wp2_with fail
                    refine HTX.out.mono ?_
                    rintro e w2 ⟨rfl, hw2⟩
                    rw [hw2]
                    clear hw2
                    go_upto_region 17 with (fail)
                    go_quiet (fail)
                    have HS3 := hid_r ((HS2.out nq).setH hxn7 0)
                    go_wp2_with fail
                    go_roundw
                    case rel => exact ⟨i + 1, by omega, by go_num, HN.out, by rw [HSN.out]; exact HS3.out⟩
                    case measure => simp [intOf]; omega
                  · rw [if_pos hq] at HRE
                    have HG := hid_r (HRE.out 5 (by decide) rfl)
                    have hq' : (hv != (tn : Int)) = true := by simpa using hq
                    have HB2 : Hid (∀ nq, Below w.heap.size w (W1.drewN nq)) := fun nq => HB1.out.trans ((below_drewN (Below.refl _ _) _).mono HB1.out.size)
                    clear hq HRE HGO
                    go_wp2_with fail
                    refine HTX.out.mono ?_
                    rintro e w2 ⟨rfl, hw2⟩
                    rw [hw2]
                    clear hw2
                    go_upto_region 17 with (fail)
                    go_quiet (fail)
                    go_wp2_with fail
                    go_ret2
                    exact ⟨by rw [HG.out]; rfl, HB2.out _⟩
                | true =>
                  rw [if_neg (by decide)] at HRE HGO
                  by_cases hq : hv = 0
                  · rw [if_neg (by simpa using hq)] at HRE HGO
                    have hq' : (hv != 0) = false := by simpa using hq
                    obtain ⟨dv, hdv⟩ : ∃ v, s.had (tn : Int) (xn : Int) = v := ⟨_, rfl⟩
                    obtain ⟨fv, hfv⟩ : ∃ v, s.first (tn : Int) = v := ⟨_, rfl⟩
                    have d0 := HS1.out.had.cell htn hxn7
                    have f0 := (HS1.out.fst tn htn).1
                    simp only at d0 f0
                    rw [hdv] at d0 HRE HGO
                    rw [hfv] at f0 HRE HGO
                    have HB2 : Hid (∀ nq, Below w.heap.size w (W1.drewN nq)) := fun nq => HB1.out.trans ((below_drewN (Below.refl _ _) _).mono HB1.out.size)
                    have HS2 : Hid (∀ nq, GrSt w (W1.drewN nq) w.heap.size (w.heap.size + 1) (w.heap.size + 1 + 1) s) := fun nq => HS1.out.later (below_drewN (Below.refl _ _) _)
                    clear hq hdv hfv
                    cases dv with
                    | true =>
                      rw [if_pos (.inl rfl)] at HRE
                      have HG := hid_r (HRE.out 6 (by decide) rfl)
                      clear HRE HGO
                      go_wp2_with fail
                      refine HTX.out.mono ?_
                      rintro e w2 ⟨rfl, hw2⟩
                      rw [hw2]
                      clear hw2
                      go_upto_region 22 with (fail)
                      go_quiet (fail)
                      go_wp2_with fail
                      go_ret2
                      exact ⟨by rw [HG.out]; rfl, HB2.out _⟩
                    | false =>
                      cases fv with
                      | false =>
                        rw [if_neg (by simp)] at HGO
                        have HN := hid_r (HGO.out rfl)
                        clear HRE HGO
                        go_wp2_with fail
                        refine HTX.out.mono ?_
                        rintro e w2 ⟨rfl, hw2⟩
                        rw [hw2]
                        clear hw2
                        go_upto_region 22 with (fail)
                        go_quiet (fail)
                        have HA3 := hid_r ((HS2.out nq).setH hxn7 (tn : Int))
                        have r0 : (W1.drewN nq).cell? ⟨P, 0, none⟩ = some (.int .i64 (tn : Int)) := p0
                        have r1 : (W1.drewN nq).cell? ⟨P, 1, none⟩ = some (.int .i64 (xn : Int)) := p1
                        have r2 : (W1.drewN nq).cell? ⟨w.heap.size, xn, none⟩ = some (.int .i64 hv) := q0
                        have r3 : (W1.drewN nq).frozen? ⟨w.heap.size, xn, none⟩ = false := y0
                        obtain ⟨W2, hW2⟩ : ∃ W, W = W1.drewN nq := ⟨_, rfl⟩
                        rw [← hW2] at HA3 r0 r1 r2 r3 ⊢
                        clear hW2
                        go_upto_region 25 with (fail)
                        obtain ⟨W3, hW3⟩ : ∃ W, W = W2.setCell ⟨w.heap.size, xn, none⟩ (.int .i64 (tn : Int)) := ⟨_, rfl⟩
                        have s0 : W3.cell? ⟨P, 0, none⟩ = some (.int .i64 (tn : Int)) := by rw [hW3, World.cell?_setCell_other _ _ _ _ (by intro e; exact hPH (congrArg Addr.block e).symm)]; exact r0
                        have s1 : W3.cell? ⟨P, 1, none⟩ = some (.int .i64 (xn : Int)) := by rw [hW3, World.cell?_setCell_other _ _ _ _ (by intro e; exact hPH (congrArg Addr.block e).symm)]; exact r1
                        rw [← hW3] at HA3 ⊢
                        have s2 := HA3.out.had.cell htn hxn7
                        have s3 := HA3.out.had.thaw (tn * 7 + xn)
                        simp only at s2
                        have HA4 := hid_r ((HA3.out.setD htn hxn7).drew)
                        clear hW3 r0 r1 r2 r3 p0 p1 p2 q0 y0 d0 f0
                        go_region
                        all_goals
                          obtain ⟨W4, hW4⟩ : ∃ W, W = (W3.setCell ⟨w.heap.size + 1, tn * 7 + xn, none⟩ (.bool true)).drew := ⟨_, rfl⟩
                          have v0 : W4.cell? ⟨P, 0, none⟩ = some (.int .i64 (tn : Int)) := by rw [hW4]; show (W3.setCell _ _).cell? _ = _; rw [World.cell?_setCell_other _ _ _ _ (by intro e; exact hPD (congrArg Addr.block e).symm)]; exact s0
                          rw [← hW4] at HA4 ⊢
                          obtain ⟨v1, v2⟩ := HA4.out.fst tn htn
                          have HA5 := hid_r (HA4.out.setFst htn)
                          clear hW4 s0 s1 s2 s3
                          go_wp2_with fail
                          go_roundw
                          case rel => exact ⟨i + 1, by omega, by go_num, HN.out, by rw [HSN.out]; exact HA5.out⟩
                          case measure => simp [intOf]; omega
                      | true =>
                        by_cases hx1' : xn = 1
                        · have hxe : ((xn : Int) == 1) = true := by rw [hx1']; rfl
                          rw [if_pos (.inr ⟨rfl, .inl (by rw [hx1']; rfl)⟩)] at HRE
                          have HG := hid_r (HRE.out 6 (by decide) rfl)
                          clear HRE HGO hx1'
                          go_wp2_with fail
                          refine HTX.out.mono ?_
                          rintro e w2 ⟨rfl, hw2⟩
                          rw [hw2]
                          clear hw2
                          go_upto_region 22 with (fail)
                          go_quiet (fail)
                          go_wp2_with fail
                          go_ret2
                          exact ⟨by rw [HG.out]; rfl, HB2.out _⟩
                        · have hxe : ((xn : Int) == 1) = false := by simp; omega
                          obtain ⟨mm, hmm⟩ : ∃ k : Nat, xn = k + 1 := ⟨xn - 1, by omega⟩
                          have hsb : (xn : Int) - 1 = (mm : Int) := by omega
                          have hwp : IntKind.i64.wrap (mm : Int) = (mm : Int) := by rw [IntKind.wrap_i64]; omega
                          have hm0 : ¬ (mm : Int) < 0 := by omega
                          have hmn : (mm : Int) < (n : Int) := by omega
                          obtain ⟨rfl, hbu, g0⟩ := HEU.out W1 HB1.out mm (by omega)
                          have hup := HTO.out (xn : Int) (by omega) (by rw [HLN.out.1]; omega)
                          have hue : upOf up (xn : Int) = up.getD mm 0 := by unfold upOf; rw [show ((xn : Int) - 1).toNat = mm by omega]
                          rw [hue] at hup HRE HGO
                          obtain ⟨un, hun⟩ : ∃ k : Nat, up.getD mm 0 = (k : Int) := ⟨(up.getD mm 0).toNat, by omega⟩
                          rw [hun] at hup g0 HRE HGO
                          have hu7 : (un : Int) < 7 := by omega
                          have hu0 : ¬ (un : Int) < 0 := by omega
                          obtain ⟨k0, -⟩ := HS1.out.hold un (by omega)
                          obtain ⟨hw, hhw⟩ : ∃ v, s.holder (un : Int) = v := ⟨_, rfl⟩
                          rw [hhw] at k0 HRE HGO
                          clear hmm hue hun hhw hup
                          by_cases hr : hw = (tn : Int)
                          · have hr' : (hw != (tn : Int)) = false := by simpa using hr
                            rw [if_neg (by rintro (h | ⟨_, h | h⟩); cases h; exact hx1' (by omega); exact h hr)] at HGO
                            have HN := hid_r (HGO.out rfl)
                            clear HRE HGO hr hx1'
                            go_wp2_with fail
                            refine HTX.out.mono ?_
                            rintro e w2 ⟨rfl, hw2⟩
                            rw [hw2]
                            clear hw2
                            go_upto_region 22 with (fail)
                            go_quiet (fail)
                            have HA3 := hid_r ((HS2.out nq).setH hxn7 (tn : Int))
                            have r0 : (W1.drewN nq).cell? ⟨P, 0, none⟩ = some (.int .i64 (tn : Int)) := p0
                            have r1 : (W1.drewN nq).cell? ⟨P, 1, none⟩ = some (.int .i64 (xn : Int)) := p1
                            have r2 : (W1.drewN nq).cell? ⟨w.heap.size, xn, none⟩ = some (.int .i64 hv) := q0
                            have r3 : (W1.drewN nq).frozen? ⟨w.heap.size, xn, none⟩ = false := y0
                            obtain ⟨W2, hW2⟩ : ∃ W, W = W1.drewN nq := ⟨_, rfl⟩
                            rw [← hW2] at HA3 r0 r1 r2 r3 ⊢
                            clear hW2
                            go_upto_region 25 with (fail)
                            obtain ⟨W3, hW3⟩ : ∃ W, W = W2.setCell ⟨w.heap.size, xn, none⟩ (.int .i64 (tn : Int)) := ⟨_, rfl⟩
                            have s0 : W3.cell? ⟨P, 0, none⟩ = some (.int .i64 (tn : Int)) := by rw [hW3, World.cell?_setCell_other _ _ _ _ (by intro e; exact hPH (congrArg Addr.block e).symm)]; exact r0
                            have s1 : W3.cell? ⟨P, 1, none⟩ = some (.int .i64 (xn : Int)) := by rw [hW3, World.cell?_setCell_other _ _ _ _ (by intro e; exact hPH (congrArg Addr.block e).symm)]; exact r1
                            rw [← hW3] at HA3 ⊢
                            have s2 := HA3.out.had.cell htn hxn7
                            have s3 := HA3.out.had.thaw (tn * 7 + xn)
                            simp only at s2
                            have HA4 := hid_r ((HA3.out.setD htn hxn7).drew)
                            clear hW3 r0 r1 r2 r3 p0 p1 p2 q0 y0 d0 f0
                            go_region
                            all_goals
                              obtain ⟨W4, hW4⟩ : ∃ W, W = (W3.setCell ⟨w.heap.size + 1, tn * 7 + xn, none⟩ (.bool true)).drew := ⟨_, rfl⟩
                              have v0 : W4.cell? ⟨P, 0, none⟩ = some (.int .i64 (tn : Int)) := by rw [hW4]; show (W3.setCell _ _).cell? _ = _; rw [World.cell?_setCell_other _ _ _ _ (by intro e; exact hPD (congrArg Addr.block e).symm)]; exact s0
                              rw [← hW4] at HA4 ⊢
                              obtain ⟨v1, v2⟩ := HA4.out.fst tn htn
                              have HA5 := hid_r (HA4.out.setFst htn)
                              clear hW4 s0 s1 s2 s3
                              go_wp2_with fail
                              go_roundw
                              case rel => exact ⟨i + 1, by omega, by go_num, HN.out, by rw [HSN.out]; exact HA5.out⟩
                              case measure => simp [intOf]; omega
                          · have hr' : (hw != (tn : Int)) = true := by simpa using hr
                            rw [if_pos (.inr ⟨rfl, .inr hr⟩)] at HRE
                            have HG := hid_r (HRE.out 6 (by decide) rfl)
                            clear HRE HGO hr hx1'
                            go_wp2_with fail
                            refine HTX.out.mono ?_
                            rintro e w2 ⟨rfl, hw2⟩
                            rw [hw2]
                            clear hw2
                            go_upto_region 22 with (fail)
                            go_quiet (fail)
                            go_wp2_with fail
                            go_ret2
                            exact ⟨by rw [HG.out]; rfl, HB2.out _⟩
                  · rw [if_pos hq] at HRE
                    have HG := hid_r (HRE.out 7 (by decide) rfl)
                    have hq' : (hv != 0) = true := by simpa using hq
                    clear hq HRE HGO
                    go_wp2_with fail
                    refine HTX.out.mono ?_
                    rintro e w2 ⟨rfl, hw2⟩
                    rw [hw2]
                    clear hw2
                    go_wp2_with fail
                    go_ret2
                    exact ⟨by rw [HG.out]; rfl, HB1.out⟩
        · have hlt' : ¬ (i : Int) < (m : Int) := by omega
          have HG := hid_r (HGN.out (by rw [show m = i by omega]; exact HNX.out))
          go_wp2_with fail
          go_ret2
          exact ⟨by rw [HG.out]; rfl, HS.out.old⟩
  · have HG : Hid (gripsR up l = (0, treeE up)) := by show _ = _; unfold gripsR; rw [if_pos ht]
    obtain ⟨te, hte⟩ : ∃ e, treeE up = e := ⟨_, rfl⟩
    rw [hte] at HTR HG ht
    have hne : (te != 0) = true := by simpa using ht
    clear ht hte HEU HEL
    go_enter Tryd.func8, Tryd.ntmps8
    go_wp2_with fail
    refine HTR.out.mono ?_
    rintro e w1 ⟨rfl, hw1⟩
    rw [hw1]
    clear hw1
    go_wp2_with fail
    go_ret2
    exact ⟨by rw [HG.out]; rfl, Below.refl _ _⟩
end Go.Proofs.YtmgadiopjofegaiDoor
