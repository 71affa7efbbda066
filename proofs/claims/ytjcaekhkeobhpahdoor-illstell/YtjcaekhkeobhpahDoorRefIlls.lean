/-
  PROVED HERE: laneref2.Ills, the document's own answer, tells what goes wrong in a history (illsR), and with which op first. Old memory stays as it was.
  Conditions: the history is right.
-/
import Derived.Test.YtjcaekhkeobhpahDoorIllsPlain
import Derived.Test.YtjcaekhkeobhpahDoorRefFaces1
import Derived.Test.YtjcaekhkeobhpahDoorRefFaces0
import Derived.Deep.Cut
import Derived.RangeFuncRecord
namespace Go.Proofs.YtjcaekhkeobhpahDoor
open Go.RowKit

theorem hid_i {p : Prop} (h : p) : Hid p := h
/-- How it stands while it is made. -/
structure IlSt (w wr : World) (Z U : Nat) (a b c d : Bool) : Prop where
  res : wr.heap[Z]? = some (.cells #[.bool false, .bool false, .bool false, .bool false] 25 (0, 0))
  blk : wr.heap[U]? = some (.cells #[.bool a, .bool b, .bool c, .bool d] 25 (0, 0))
  old : Below w.heap.size w wr
  newZ : w.heap.size ≤ Z
  newU : w.heap.size ≤ U
  zu : Z ≠ U
theorem block_setI {w : World} {T k : Nat} {cs : Array Value} {ty : TypeId} {u : Value} (h : w.heap[T]? = some (.cells cs ty (0, 0))) : (w.setCell ⟨T, k, none⟩ u).heap[T]? = some (.cells (cs.setIfInBounds k u) ty (0, 0)) := by
  unfold World.setCell
  simp [Array.getElem?_modify, h]
section
variable {w wr w1 : World} {Z U : Nat} {a b c d : Bool}
theorem IlSt.ltU (h : IlSt w wr Z U a b c d) : U < wr.heap.size := (Array.getElem?_eq_some_iff.1 h.blk).1
theorem IlSt.ltZ (h : IlSt w wr Z U a b c d) : Z < wr.heap.size := (Array.getElem?_eq_some_iff.1 h.res).1
theorem IlSt.later (h : IlSt w wr Z U a b c d) (hb : Below wr.heap.size wr w1) : IlSt w w1 Z U a b c d := ⟨(hb.block Z h.ltZ).trans h.res, (hb.block U h.ltU).trans h.blk, h.old.trans (hb.mono h.old.size), h.newZ, h.newU, h.zu⟩
theorem IlSt.cells (h : IlSt w wr Z U a b c d) : wr.cell? ⟨U, 0, none⟩ = some (.bool a) ∧ wr.cell? ⟨U, 1, none⟩ = some (.bool b) ∧ wr.cell? ⟨U, 2, none⟩ = some (.bool c) ∧ wr.cell? ⟨U, 3, none⟩ = some (.bool d) := by
  refine ⟨?_, ?_, ?_, ?_⟩ <;> rw [cell_of_row wr U _ _ _ _ h.blk] <;> rfl
theorem IlSt.thaw (h : IlSt w wr Z U a b c d) (k : Nat) : wr.frozen? ⟨U, k, none⟩ = false := by simp [World.frozen?, h.blk]
theorem IlSt.put {k : Nat} {v : Value} {a' b' c' d' : Bool} (h : IlSt w wr Z U a b c d) (hv : (#[.bool a, .bool b, .bool c, .bool d] : Array Value).setIfInBounds k v = #[.bool a', .bool b', .bool c', .bool d']) : IlSt w (wr.setCell ⟨U, k, none⟩ v) Z U a' b' c' d' := by
  refine ⟨?_, ?_, h.old.setCell h.newU _, h.newZ, h.newU, h.zu⟩
  · rw [Below.heap_setCell _ _ _ _ h.zu]; exact h.res
  · rw [block_setI h.blk, hv]
end
/-- It is laid where it is told. -/
theorem IlSt.fin {w wr : World} {Z U : Nat} {a b c d : Bool} (h : IlSt w wr Z U a b c d) :
    ((((wr.setCell ⟨Z, 0, none⟩ (.bool a)).setCell ⟨Z, 1, none⟩ (.bool b)).setCell ⟨Z, 2, none⟩ (.bool c)).setCell ⟨Z, 3, none⟩ (.bool d)).heap[Z]? = some (.cells #[.bool a, .bool b, .bool c, .bool d] 25 (0, 0)) ∧ Below w.heap.size w ((((wr.setCell ⟨Z, 0, none⟩ (.bool a)).setCell ⟨Z, 1, none⟩ (.bool b)).setCell ⟨Z, 2, none⟩ (.bool c)).setCell ⟨Z, 3, none⟩ (.bool d)) := by
  refine ⟨by rw [block_setI (block_setI (block_setI (block_setI h.res)))]; rfl, (((h.old.setCell h.newZ _).setCell h.newZ _).setCell h.newZ _).setCell h.newZ _⟩
theorem ills_info : (Tryd.prog.info? 25).map (fun i => i.size) = some 4 := by kernel_rfl
theorem results_illsQ {P : Program} {fn : Func} {p q : Tmp} {ty : TypeId} (h : fn.results = #[.cell p ty, .tmp q]) (tmps : Array Value) (w : World) (g : Nat) (t : TypeId) (cs : Array Value) (fr : Nat × Nat) (d : TypeDesc) (v : Value)
    (hp : tmps.getD p undef = .pointer (some ⟨g, 0, none⟩)) (hq : tmps.getD q undef = v) (hg : w.heap[g]? = some (.cells cs t fr))
    (hu : P.underlying ty = some d) (hd : (match d with | .struct _ | .array _ _ => true | _ => false) = true) (hi : (P.info? ty).map (·.size) = some cs.size) :
    (results fn tmps).run P w = .ok (.tuple #[.agg cs, v]) w := by
  have hp' : tmps[p]?.getD undef = .pointer (some ⟨g, 0, none⟩) := by simpa using hp
  have hq' : tmps[q]?.getD undef = v := by simpa using hq
  simp [results, h, hp', hq', asAddr, run_loadVar_row w g t ty cs fr d hg hu hd hi]
theorem cell_newI (w : World) (cs : Array Value) (T : TypeId) (k : Nat) (u : Value) (h : cs[k]? = some u) : (w.alloc (.cells cs T)).cell? ⟨w.heap.size, k, none⟩ = some u := by rw [cell_of_row _ _ _ _ _ _ (World.alloc_heap_new w _)]; exact h
/-- What is told of an op. -/
theorem ill_next (l : List Op3) (i : Nat) {t a x : Int} (ho : opAt l i = (t, a, x)) {d s : Bool} (hd : openB l i 2 = d) (hs : openB l i 1 = s) :
    anyTo (illW l) (i + 1) = (anyTo (illW l) i || (a == 2 && d)) ∧ anyTo (illR l) (i + 1) = (anyTo (illR l) i || (a == 1 && d)) ∧ anyTo (illU l) (i + 1) = (anyTo (illU l) i || (a == 2 && s)) ∧ firstTo l (i + 1) = if firstTo l i < 0 ∧ (decide (a ≤ 2) && (d || (a == 2 && s))) = true then (i : Int) else firstTo l i := by
  refine ⟨?_, ?_, ?_, ?_⟩
  · rw [anyTo_succ]; unfold illW; rw [ho, hd]
  · rw [anyTo_succ]; unfold illR; rw [ho, hd]
  · rw [anyTo_succ]; unfold illU; rw [ho, hs]
  · rw [firstTo]; unfold illAt; rw [ho, hd, hs]
/-- How things stand when the first i have been gone over. -/
def IlOne (l : List Op3) (w wr : World) (Z U : Nat) (i : Nat) (lo : Bool) : Prop := IlSt w wr Z U (anyTo (illW l) i) (anyTo (illR l) i) (anyTo (illU l) i) lo
set_option maxHeartbeats 32000000 in
set_option maxRecDepth 100000 in
theorem refIlls_any (l : List Op3) (v : Value) (w : World) (hI : IsOps w v l) (hc : (chk l).2 = 0) :
    Calls Tryd.prog 7 #[v] w fun e w' => e = .returned (.tuple #[.agg #[.bool (illsR l).1.1, .bool (illsR l).1.2.1, .bool (illsR l).1.2.2.1, .bool (illsR l).1.2.2.2], .int .i64 (illsR l).2]) ∧ Below w.heap.size w w' := by
  obtain ⟨hl40, hop, hcalm⟩ := (chk_iff l).1 hc
  have HIO : Hid (∀ W, Below w.heap.size w W → IsOps W v l) := fun W hW => hI.below hW (Nat.le_refl _)
  have HOP : Hid (∀ W, Below w.heap.size w W → ∀ i, i < l.length → ∀ wh, Calls Tryd.prog 14 #[v, .int .i64 i, .int .i64 wh] W fun e w' => e = .returned (.bool (openB l i wh)) ∧ Below W.heap.size W w') := fun W hW i hi wh => open_any l v i wh W (HIO.out W hW) hl40 hi
  have HEN : Hid (∀ W, Below w.heap.size w W → ∀ t, Calls Tryd.prog 15 #[v, .int .i64 t, .int .i64 l.length] W fun e w' => e = .returned (.int .i64 (endOf l t)) ∧ w' = W) := fun W hW t => by
    have := endAt_any l v t l.length W (HIO.out W hW) hl40 (Nat.le_refl _)
    unfold endBy at this
    rw [List.take_length] at this
    exact this
  have HKD : Hid (∀ i, i < l.length → (opAt l i).2.1 = 1 ∨ (opAt l i).2.1 = 2 ∨ 2 < (opAt l i).2.1) := fun i hi => by have := isOp_kindsI (hop _ (opAt_mem hi)); omega
  obtain ⟨ad, b, off, cap, rfl, ha, -, hbB, hops⟩ := hI
  have HE : Hid (∀ W, Below w.heap.size w W → ∀ k, k < l.length → ad = some ⟨b, off, none⟩ ∧ b < W.heap.size ∧ W.cell? ⟨b, off + k * 3, none⟩ = some (.int .i64 (opAt l k).1) ∧ W.cell? ⟨b, off + k * 3 + 1, none⟩ = some (.int .i64 (opAt l k).2.1) ∧ W.cell? ⟨b, off + k * 3 + 2, none⟩ = some (.int .i64 (opAt l k).2.2)) := fun W hW k hk => by
    have hb : b < w.heap.size := by
      rcases hbB with h | h
      · exact h
      · subst h; simp at hk
    exact ⟨ha (by omega), Nat.lt_of_lt_of_le hb hW.size, (hops.below hW hbB) k hk⟩
  have HLI : Hid (∀ i j k, lostB l i k j = true ↔ ((opAt l i).2.1 = 1 ∧ (opAt l k).2.1 = 2 ∧ (opAt l j).2.1 = 2 ∧ (opAt l i).1 = (opAt l j).1 ∧ (opAt l i).1 ≠ (opAt l k).1 ∧ (opAt l i).2.2 = (opAt l k).2.2 ∧ (opAt l i).2.2 = (opAt l j).2.2 ∧ endOf l (opAt l i).1 = 3)) := fun i j k => by unfold lostB; simp only [Bool.and_eq_true, beq_iff_eq, bne_iff_ne]
  clear hop hcalm ha hbB hops hc
  obtain ⟨n, hn⟩ : ∃ n, l.length = n := ⟨_, rfl⟩
  have HN := hid_i hn
  rw [hn] at HOP HEN HKD HE hl40
  rw [hn]
  clear hn
  go_enter Tryd.func7, Tryd.ntmps7
  go_upto_region 3 with (fail)
  obtain ⟨W0, hW0⟩ : ∃ W, W = (w.alloc (.cells #[.bool false, .bool false, .bool false, .bool false] 25)).alloc (.cells #[.bool false, .bool false, .bool false, .bool false] 25) := ⟨_, rfl⟩
  rw [← hW0]
  have HST : Hid (IlOne l w W0 w.heap.size (w.heap.size + 1) 0 false) := by
    have hb0 : Below w.heap.size w W0 := by rw [hW0]; exact ((Below.refl _ w).alloc (Nat.le_refl _) _).alloc (by simp) _
    refine ⟨?_, ?_, hb0, Nat.le_refl _, by omega, by omega⟩
    · rw [hW0]; exact (Below.heap_alloc _ _ _ (by simp)).trans (World.alloc_heap_new w _)
    · rw [hW0]
      have := World.alloc_heap_new (w.alloc (.cells #[.bool false, .bool false, .bool false, .bool false] 25)) (.cells #[.bool false, .bool false, .bool false, .bool false] 25)
      rwa [World.size_alloc] at this
  obtain ⟨U, hU⟩ : ∃ U, U = w.heap.size + 1 := ⟨_, rfl⟩
  rw [← hU] at HST ⊢
  obtain ⟨Z, hZ⟩ : ∃ Z, Z = w.heap.size := ⟨_, rfl⟩
  rw [← hZ] at HST ⊢
  clear hW0 hU hZ
  go_wp2_with fail
  go_loopw [5, 6] (fun v5 v6 wr => ∃ i : Nat, i ≤ n ∧ v6 = .int .i64 i ∧ v5 = .int .i64 (firstTo l i) ∧ IlOne l w wr Z U i false) (fun _ v6 _ => n - (intOf v6).toNat)
  case atStart => exact ⟨0, Nat.zero_le _, rfl, rfl, HST.out⟩
  case round =>
    obtain ⟨i, hi, rfl, rfl, hst⟩ := hrel
    have HS := hid_i hst
    clear hst HST
    by_cases hlt : i < n
    · have hlt' : (i : Int) < (n : Int) := by omega
      have hi0 : (0 : Int) ≤ (i : Int) := by omega
      have hin : ¬ (i : Int) < 0 := by omega
      obtain ⟨rfl, hbw, e0, e1, e2⟩ := HE.out wr HS.out.old i hlt
      have hkd := HKD.out i hlt
      obtain ⟨d, hd⟩ : ∃ d, openB l i 2 = d := ⟨_, rfl⟩
      obtain ⟨s, hs⟩ : ∃ d, openB l i 1 = d := ⟨_, rfl⟩
      obtain ⟨⟨t, a, x⟩, ho⟩ : ∃ o, opAt l i = o := ⟨_, rfl⟩
      have HNX := hid_i (ill_next l i ho hd hs)
      rw [ho] at e0 e1 e2 hkd
      simp only at e0 e1 e2 hkd
      have HO1 : Hid (∀ W, Below w.heap.size w W → Calls Tryd.prog 14 #[.slice (some ⟨b, off, none⟩) n cap, .int .i64 i, .int .i64 2] W fun e w' => e = .returned (.bool d) ∧ Below W.heap.size W w') := fun W hW => by have := HOP.out W hW i hlt 2; rw [hd] at this; exact this
      have HO2 : Hid (∀ W, Below w.heap.size w W → Calls Tryd.prog 14 #[.slice (some ⟨b, off, none⟩) n cap, .int .i64 i, .int .i64 1] W fun e w' => e = .returned (.bool s) ∧ Below W.heap.size W w') := fun W hW => by have := HOP.out W hW i hlt 1; rw [hs] at this; exact this
      obtain ⟨fi, hfi⟩ : ∃ f, firstTo l i = f := ⟨_, rfl⟩
      have HFI := hid_i hfi
      rw [hfi] at HNX
      rw [hfi]
      clear hd hs ho hfi
      obtain ⟨g0, g1, g2, g3⟩ : (∃ x, anyTo (illW l) i = x) ∧ (∃ x, anyTo (illR l) i = x) ∧ (∃ x, anyTo (illU l) i = x) ∧ True := ⟨⟨_, rfl⟩, ⟨_, rfl⟩, ⟨_, rfl⟩, trivial⟩
      obtain ⟨b0, hb0⟩ := g0
      obtain ⟨b1, hb1⟩ := g1
      obtain ⟨b2, hb2⟩ := g2
      have HS1 : Hid (IlSt w wr Z U b0 b1 b2 false) := by have h9 := HS.out; unfold IlOne at h9; rw [hb0, hb1, hb2] at h9; exact h9
      rw [hb0, hb1, hb2] at HNX
      have HFIN : Hid (∀ (W : World) (c0 c1 c2 : Bool), c0 = (b0 || (a == 2 && d)) → c1 = (b1 || (a == 1 && d)) → c2 = (b2 || (a == 2 && s)) → IlSt w W Z U c0 c1 c2 false → IlOne l w W Z U (i + 1) false) := fun W c0 c1 c2 h0 h1 h2 hst => by unfold IlOne; rw [HNX.out.1, HNX.out.2.1, HNX.out.2.2.1, ← h0, ← h1, ← h2]; exact hst
      have HFST : Hid (∀ f : Int, f = (if fi < 0 ∧ (decide (a ≤ 2) && (d || (a == 2 && s))) = true then (i : Int) else fi) → f = firstTo l (i + 1)) := fun f h => h.trans HNX.out.2.2.2.symm
      clear hb0 hb1 hb2 g3 HS HNX
      go_upto_region 7 with (fail)
      obtain ⟨W1, hW1⟩ : ∃ W, W = wr.alloc (.cells #[.int .i64 t, .int .i64 a, .int .i64 x] 37) := ⟨_, rfl⟩
      rw [← hW1]
      have hbn : Below wr.heap.size wr W1 := by rw [hW1]; exact (Below.refl _ wr).alloc (Nat.le_refl _) _
      have p1 : W1.cell? ⟨wr.heap.size, 1, none⟩ = some (.int .i64 a) := by rw [hW1]; simp
      obtain ⟨P, hP⟩ : ∃ P, P = wr.heap.size := ⟨_, rfl⟩
      have hPU : P ≠ U := by rw [hP]; have := HS1.out.ltU; omega
      rw [← hP] at p1 ⊢
      have HS2 := hid_i (HS1.out.later hbn)
      clear hW1 hbn hP HS1 e0 e1 e2
      rcases hkd with rfl | rfl | hgt
      · go_wp2_with fail
        refine (HO1.out W1 HS2.out.old).mono ?_
        rintro e w2 ⟨rfl, hb2⟩
        have HS3 := hid_i (HS2.out.later hb2)
        have p2 := (hb2.cell (p := ⟨P, 1, none⟩) (World.block_lt_of_cell? W1 _ p1)).trans p1
        clear hb2 p1
        go_wp2_with fail
        refine (HO2.out w2 HS3.out.old).mono ?_
        rintro e w3 ⟨rfl, hb3⟩
        have HS4 := hid_i (HS3.out.later hb3)
        have p3 := (hb3.cell (p := ⟨P, 1, none⟩) (World.block_lt_of_cell? w2 _ p2)).trans p2
        clear hb3 p2
        obtain ⟨u0, u1, u2, u3⟩ := HS4.out.cells
        have y0 := HS4.out.thaw 0
        have y1 := HS4.out.thaw 1
        have y2 := HS4.out.thaw 2
        cases d with
        | false =>
          by_cases hneg : fi < 0
          · go_wp2_with fail
            go_roundw
            case rel => exact ⟨i + 1, by omega, by go_num, congrArg (Value.int .i64) (HFST.out _ (if_neg (fun h => by simp at h)).symm), HFIN.out _ _ _ _ (by simp) (by simp) (by simp) HS4.out⟩
            case measure => simp [intOf]; omega
          · go_wp2_with fail
            go_roundw
            case rel => exact ⟨i + 1, by omega, by go_num, congrArg (Value.int .i64) (HFST.out _ (if_neg (fun h => by have := h.1; omega)).symm), HFIN.out _ _ _ _ (by simp) (by simp) (by simp) HS4.out⟩
            case measure => simp [intOf]; omega
        | true =>
          by_cases hneg : fi < 0
          · go_wp2_with fail
            go_roundw
            case rel => exact ⟨i + 1, by omega, by go_num, congrArg (Value.int .i64) (HFST.out _ (if_pos ⟨hneg, by simp⟩).symm), HFIN.out _ _ _ _ (by simp) (by simp) (by simp) (HS4.out.put (k := 1) (v := .bool true) rfl)⟩
            case measure => simp [intOf]; omega
          · go_wp2_with fail
            go_roundw
            case rel => exact ⟨i + 1, by omega, by go_num, congrArg (Value.int .i64) (HFST.out _ (if_neg (fun h => by have := h.1; omega)).symm), HFIN.out _ _ _ _ (by simp) (by simp) (by simp) (HS4.out.put (k := 1) (v := .bool true) rfl)⟩
            case measure => simp [intOf]; omega
      · go_wp2_with fail
        refine (HO1.out W1 HS2.out.old).mono ?_
        rintro e w2 ⟨rfl, hb2⟩
        have HS3 := hid_i (HS2.out.later hb2)
        have p2 := (hb2.cell (p := ⟨P, 1, none⟩) (World.block_lt_of_cell? W1 _ p1)).trans p1
        clear hb2 p1
        go_wp2_with fail
        refine (HO2.out w2 HS3.out.old).mono ?_
        rintro e w3 ⟨rfl, hb3⟩
        have HS4 := hid_i (HS3.out.later hb3)
        have p3 := (hb3.cell (p := ⟨P, 1, none⟩) (World.block_lt_of_cell? w2 _ p2)).trans p2
        clear hb3 p2
        obtain ⟨u0, u1, u2, u3⟩ := HS4.out.cells
        have y0 := HS4.out.thaw 0
        have y1 := HS4.out.thaw 1
        have y2 := HS4.out.thaw 2
        cases d with
        | false =>
          cases s with
          | false =>
            by_cases hneg : fi < 0
            · go_wp2_with fail
              go_roundw
              case rel => exact ⟨i + 1, by omega, by go_num, congrArg (Value.int .i64) (HFST.out _ (if_neg (fun h => by simp at h)).symm), HFIN.out _ _ _ _ (by simp) (by simp) (by simp) HS4.out⟩
              case measure => simp [intOf]; omega
            · go_wp2_with fail
              go_roundw
              case rel => exact ⟨i + 1, by omega, by go_num, congrArg (Value.int .i64) (HFST.out _ (if_neg (fun h => by have := h.1; omega)).symm), HFIN.out _ _ _ _ (by simp) (by simp) (by simp) HS4.out⟩
              case measure => simp [intOf]; omega
          | true =>
            by_cases hneg : fi < 0
            · go_wp2_with fail
              go_roundw
              case rel => exact ⟨i + 1, by omega, by go_num, congrArg (Value.int .i64) (HFST.out _ (if_pos ⟨hneg, by simp⟩).symm), HFIN.out _ _ _ _ (by simp) (by simp) (by simp) (HS4.out.put (k := 2) (v := .bool true) rfl)⟩
              case measure => simp [intOf]; omega
            · go_wp2_with fail
              go_roundw
              case rel => exact ⟨i + 1, by omega, by go_num, congrArg (Value.int .i64) (HFST.out _ (if_neg (fun h => by have := h.1; omega)).symm), HFIN.out _ _ _ _ (by simp) (by simp) (by simp) (HS4.out.put (k := 2) (v := .bool true) rfl)⟩
              case measure => simp [intOf]; omega
        | true =>
          cases s with
          | false =>
            by_cases hneg : fi < 0
            · go_wp2_with fail
              go_roundw
              case rel => exact ⟨i + 1, by omega, by go_num, congrArg (Value.int .i64) (HFST.out _ (if_pos ⟨hneg, by simp⟩).symm), HFIN.out _ _ _ _ (by simp) (by simp) (by simp) (HS4.out.put (k := 0) (v := .bool true) rfl)⟩
              case measure => simp [intOf]; omega
            · go_wp2_with fail
              go_roundw
              case rel => exact ⟨i + 1, by omega, by go_num, congrArg (Value.int .i64) (HFST.out _ (if_neg (fun h => by have := h.1; omega)).symm), HFIN.out _ _ _ _ (by simp) (by simp) (by simp) (HS4.out.put (k := 0) (v := .bool true) rfl)⟩
              case measure => simp [intOf]; omega
          | true =>
            by_cases hneg : fi < 0
            · go_wp2_with fail
              go_roundw
              case rel => exact ⟨i + 1, by omega, by go_num, congrArg (Value.int .i64) (HFST.out _ (if_pos ⟨hneg, by simp⟩).symm), HFIN.out _ _ _ _ (by simp) (by simp) (by simp) ((HS4.out.put (k := 0) (v := .bool true) rfl).put (k := 2) (v := .bool true) rfl)⟩
              case measure => simp [intOf]; omega
            · go_wp2_with fail
              go_roundw
              case rel => exact ⟨i + 1, by omega, by go_num, congrArg (Value.int .i64) (HFST.out _ (if_neg (fun h => by have := h.1; omega)).symm), HFIN.out _ _ _ _ (by simp) (by simp) (by simp) ((HS4.out.put (k := 0) (v := .bool true) rfl).put (k := 2) (v := .bool true) rfl)⟩
              case measure => simp [intOf]; omega
      · have hgt' : (2 : Int) < a := hgt
        have hn1 : (a == 1) = false := by simp; omega
        have hn2 : (a == 2) = false := by simp; omega
        have hle : ¬ a ≤ 2 := by omega
        go_wp2_with fail
        go_roundw
        case rel => exact ⟨i + 1, by omega, by go_num, congrArg (Value.int .i64) (HFST.out _ (by simp [hle])), HFIN.out _ _ _ _ (by simp [hn2]) (by simp [hn1]) (by simp [hn2]) HS2.out⟩
        case measure => simp [intOf]; omega
    · have hlt' : ¬ (i : Int) < (n : Int) := by omega
      obtain rfl : i = n := by omega
      obtain ⟨f1, hf1⟩ : ∃ f, firstTo l i = f := ⟨_, rfl⟩
      obtain ⟨b0, hb0⟩ : ∃ x, anyTo (illW l) i = x := ⟨_, rfl⟩
      obtain ⟨b1, hb1⟩ : ∃ x, anyTo (illR l) i = x := ⟨_, rfl⟩
      obtain ⟨b2, hb2⟩ : ∃ x, anyTo (illU l) i = x := ⟨_, rfl⟩
      have HS1 : Hid (IlSt w wr Z U b0 b1 b2 (lostI l 0)) := by have h9 := HS.out; unfold IlOne at h9; rw [hb0, hb1, hb2] at h9; exact h9
      have HEND : Hid (illsR l = ((b0, b1, b2, lostI l i), f1)) := by show _ = _; unfold illsR; rw [HN.out, hb0, hb1, hb2, hf1]
      rw [hf1]
      clear hb0 hb1 hb2 hf1 HS HKD HOP hlt
      obtain ⟨n, hn⟩ : ∃ n, i = n := ⟨_, rfl⟩
      subst hn
      obtain ⟨WA, hWA⟩ : ∃ W : World, W = wr := ⟨_, rfl⟩
      subst hWA
      go_wp2_with fail
      go_loopw [10] (fun v10 wr => ∃ p : Nat, p ≤ i ∧ v10 = .int .i64 p ∧ IlSt w wr Z U b0 b1 b2 (lostI l p)) (fun v10 _ => i - (intOf v10).toNat)
      case atStart => exact ⟨0, Nat.zero_le _, rfl, HS1.out⟩
      case round =>
        obtain ⟨p, hp, rfl, hst⟩ := hrel
        have HS2 := hid_i hst
        clear hst HS1
        by_cases hpl : p < i
        · have hpl' : (p : Int) < (i : Int) := by omega
          have HS3 : Hid (IlSt w wr Z U b0 b1 b2 (lostI l p || lostK l p (p + 1))) := by show IlSt _ _ _ _ _ _ _ _; rw [lostK_first, Bool.or_false]; exact HS2.out
          clear HS2
          obtain ⟨WB, hWB⟩ : ∃ W : World, W = wr := ⟨_, rfl⟩
          subst hWB
          go_wp2_with fail
          go_loopw [11] (fun v11 wr => ∃ k : Nat, p < k ∧ k ≤ i ∧ v11 = .int .i64 k ∧ IlSt w wr Z U b0 b1 b2 (lostI l p || lostK l p k)) (fun v11 _ => i - (intOf v11).toNat)
          case atStart => exact ⟨p + 1, by omega, by omega, by go_num, HS3.out⟩
          case round =>
            obtain ⟨k, hpk, hk, rfl, hst⟩ := hrel
            have HS4 := hid_i hst
            clear hst HS3
            by_cases hkl : k < i
            · have hkl' : (k : Int) < (i : Int) := by omega
              have HS5 : Hid (IlSt w wr Z U b0 b1 b2 ((lostI l p || lostK l p k) || lostJ l p k (k + 1))) := by show IlSt _ _ _ _ _ _ _ _; rw [lostJ_first, Bool.or_false]; exact HS4.out
              clear HS4
              obtain ⟨WC, hWC⟩ : ∃ W : World, W = wr := ⟨_, rfl⟩
              subst hWC
              go_wp2_with fail
              go_loopw [12] (fun v12 wr => ∃ j : Nat, k < j ∧ j ≤ i ∧ v12 = .int .i64 j ∧ IlSt w wr Z U b0 b1 b2 ((lostI l p || lostK l p k) || lostJ l p k j)) (fun v12 _ => i - (intOf v12).toNat)
              case atStart => exact ⟨k + 1, by omega, by omega, by go_num, HS5.out⟩
              case round =>
                obtain ⟨j, hkj, hj, rfl, hst⟩ := hrel
                have HS6 := hid_i hst
                clear hst HS5
                by_cases hjl : j < i
                · have hjl' : (j : Int) < (i : Int) := by omega
                  have hp0 : (0 : Int) ≤ (p : Int) := by omega
                  have hpn : ¬ (p : Int) < 0 := by omega
                  have hk0 : (0 : Int) ≤ (k : Int) := by omega
                  have hkn : ¬ (k : Int) < 0 := by omega
                  have hj0 : (0 : Int) ≤ (j : Int) := by omega
                  have hjn : ¬ (j : Int) < 0 := by omega
                  obtain ⟨rfl, hbw, x0, x1, x2⟩ := HE.out wr HS6.out.old p hpl
                  obtain ⟨-, -, y0, y1, y2⟩ := HE.out wr HS6.out.old k hkl
                  obtain ⟨-, -, z0, z1, z2⟩ := HE.out wr HS6.out.old j hjl
                  have hlb := HLI.out p j k
                  obtain ⟨⟨t1, a1, i1⟩, ho1⟩ : ∃ o, opAt l p = o := ⟨_, rfl⟩
                  obtain ⟨⟨t2, a2, i2⟩, ho2⟩ : ∃ o, opAt l k = o := ⟨_, rfl⟩
                  obtain ⟨⟨t3, a3, i3⟩, ho3⟩ : ∃ o, opAt l j = o := ⟨_, rfl⟩
                  rw [ho1] at x0 x1 x2
                  rw [ho2] at y0 y1 y2
                  rw [ho3] at z0 z1 z2
                  rw [ho1, ho2, ho3] at hlb
                  simp only at x0 x1 x2 y0 y1 y2 z0 z1 z2 hlb
                  obtain ⟨en, hen⟩ : ∃ e, endOf l t1 = e := ⟨_, rfl⟩
                  rw [hen] at hlb
                  have HLB := hid_i hlb
                  have HEN1 : Hid (∀ W, Below w.heap.size w W → Calls Tryd.prog 15 #[.slice (some ⟨b, off, none⟩) i cap, .int .i64 t1, .int .i64 i] W fun e w' => e = .returned (.int .i64 en) ∧ w' = W) := fun W hW => by have := HEN.out W hW t1; rw [hen] at this; exact this
                  have HSU : Hid (∀ W bb, lostB l p k j = bb → IlSt w W Z U b0 b1 b2 (((lostI l p || lostK l p k) || lostJ l p k j) || bb) → IlSt w W Z U b0 b1 b2 ((lostI l p || lostK l p k) || lostJ l p k (j + 1))) := fun W bb hb hs => by rw [lostJ_succ l hkj, hb, ← Bool.or_assoc]; exact hs
                  obtain ⟨lo, hlo⟩ : ∃ x, ((lostI l p || lostK l p k) || lostJ l p k j) = x := ⟨_, rfl⟩
                  rw [hlo] at HS6 HSU
                  clear hlb hen hlo ho1 ho2 ho3
                  go_upto_region 30 with (fail)
                  obtain ⟨W1, hW1⟩ : ∃ W, W = ((wr.alloc (.cells #[.int .i64 t1, .int .i64 a1, .int .i64 i1] 37)).alloc (.cells #[.int .i64 t2, .int .i64 a2, .int .i64 i2] 37)).alloc (.cells #[.int .i64 t3, .int .i64 a3, .int .i64 i3] 37) := ⟨_, rfl⟩
                  rw [← hW1]
                  have hbn : Below wr.heap.size wr W1 := by rw [hW1]; exact (((Below.refl _ wr).alloc (Nat.le_refl _) _).alloc (by simp) _).alloc (by simp; omega) _
                  have HS7 := hid_i (HS6.out.later hbn)
                  have kA : Below (wr.alloc (.cells #[.int .i64 t1, .int .i64 a1, .int .i64 i1] 37)).heap.size (wr.alloc (.cells #[.int .i64 t1, .int .i64 a1, .int .i64 i1] 37)) W1 := by rw [hW1]; exact ((Below.refl _ _).alloc (Nat.le_refl _) _).alloc (by simp) _
                  have kB : Below ((wr.alloc (.cells #[.int .i64 t1, .int .i64 a1, .int .i64 i1] 37)).alloc (.cells #[.int .i64 t2, .int .i64 a2, .int .i64 i2] 37)).heap.size ((wr.alloc (.cells #[.int .i64 t1, .int .i64 a1, .int .i64 i1] 37)).alloc (.cells #[.int .i64 t2, .int .i64 a2, .int .i64 i2] 37)) W1 := by rw [hW1]; exact (Below.refl _ _).alloc (Nat.le_refl _) _
                  have sB : (wr.alloc (.cells #[.int .i64 t1, .int .i64 a1, .int .i64 i1] 37)).heap.size = wr.heap.size + 1 := by simp
                  have sC : ((wr.alloc (.cells #[.int .i64 t1, .int .i64 a1, .int .i64 i1] 37)).alloc (.cells #[.int .i64 t2, .int .i64 a2, .int .i64 i2] 37)).heap.size = wr.heap.size + 1 + 1 := by simp
                  have c0 : W1.cell? ⟨wr.heap.size, 0, none⟩ = some (.int .i64 t1) := (kA.cell (p := ⟨wr.heap.size, 0, none⟩) (by simp)).trans (by simp)
                  have c1 : W1.cell? ⟨wr.heap.size, 1, none⟩ = some (.int .i64 a1) := (kA.cell (p := ⟨wr.heap.size, 1, none⟩) (by simp)).trans (by simp)
                  have c2 : W1.cell? ⟨wr.heap.size, 2, none⟩ = some (.int .i64 i1) := (kA.cell (p := ⟨wr.heap.size, 2, none⟩) (by simp)).trans (by simp)
                  have d0 : W1.cell? ⟨wr.heap.size + 1, 0, none⟩ = some (.int .i64 t2) := by rw [← sB]; exact (kB.cell (p := ⟨(wr.alloc (.cells #[.int .i64 t1, .int .i64 a1, .int .i64 i1] 37)).heap.size, 0, none⟩) (by simp)).trans (cell_newI _ _ _ 0 _ rfl)
                  have d1 : W1.cell? ⟨wr.heap.size + 1, 1, none⟩ = some (.int .i64 a2) := by rw [← sB]; exact (kB.cell (p := ⟨(wr.alloc (.cells #[.int .i64 t1, .int .i64 a1, .int .i64 i1] 37)).heap.size, 1, none⟩) (by simp)).trans (cell_newI _ _ _ 1 _ rfl)
                  have d2 : W1.cell? ⟨wr.heap.size + 1, 2, none⟩ = some (.int .i64 i2) := by rw [← sB]; exact (kB.cell (p := ⟨(wr.alloc (.cells #[.int .i64 t1, .int .i64 a1, .int .i64 i1] 37)).heap.size, 2, none⟩) (by simp)).trans (cell_newI _ _ _ 2 _ rfl)
                  have e0 : W1.cell? ⟨wr.heap.size + 1 + 1, 0, none⟩ = some (.int .i64 t3) := by rw [← sC, hW1]; exact cell_newI _ _ _ 0 _ rfl
                  have e1 : W1.cell? ⟨wr.heap.size + 1 + 1, 1, none⟩ = some (.int .i64 a3) := by rw [← sC, hW1]; exact cell_newI _ _ _ 1 _ rfl
                  have e2 : W1.cell? ⟨wr.heap.size + 1 + 1, 2, none⟩ = some (.int .i64 i3) := by rw [← sC, hW1]; exact cell_newI _ _ _ 2 _ rfl
                  obtain ⟨P, hP⟩ : ∃ P, P = wr.heap.size := ⟨_, rfl⟩
                  rw [← hP] at c0 c1 c2 d0 d1 d2 e0 e1 e2
                  clear kA kB sB sC
                  rw [← hP]
                  clear hW1 hbn hP HS6 x0 x1 x2 y0 y1 y2 z0 z1 z2
                  have HNO : Hid (lostB l p k j = false → IlSt w W1 Z U b0 b1 b2 ((lostI l p || lostK l p k) || lostJ l p k (j + 1))) := fun h => HSU.out W1 false h (by rw [Bool.or_false]; exact HS7.out)
                  by_cases g0n : ¬ (a1 = 1)
                  · have HR := hid_i (HNO.out (Bool.eq_false_iff.2 fun h => g0n ((HLB.out.1 h).1)))
                    have q0 : (a1 == 1) = false := by simpa using g0n
                    clear g0n
                    go_wp2_with fail
                    go_roundw
                    case rel => exact ⟨j + 1, by omega, by omega, by go_num, HR.out⟩
                    case measure => simp [intOf]; omega
                  · have g0 : a1 = 1 := Decidable.not_not.1 g0n
                    have H0 := hid_i g0
                    have q0 : (a1 == 1) = true := by simpa using g0
                    clear g0 g0n
                    by_cases g1n : ¬ (a2 = 2)
                    · have HR := hid_i (HNO.out (Bool.eq_false_iff.2 fun h => g1n ((HLB.out.1 h).2.1)))
                      have q1 : (a2 == 2) = false := by simpa using g1n
                      clear g1n
                      go_wp2_with fail
                      go_roundw
                      case rel => exact ⟨j + 1, by omega, by omega, by go_num, HR.out⟩
                      case measure => simp [intOf]; omega
                    · have g1 : a2 = 2 := Decidable.not_not.1 g1n
                      have H1 := hid_i g1
                      have q1 : (a2 == 2) = true := by simpa using g1
                      clear g1 g1n
                      by_cases g2n : ¬ (a3 = 2)
                      · have HR := hid_i (HNO.out (Bool.eq_false_iff.2 fun h => g2n ((HLB.out.1 h).2.2.1)))
                        have q2 : (a3 == 2) = false := by simpa using g2n
                        clear g2n
                        go_wp2_with fail
                        go_roundw
                        case rel => exact ⟨j + 1, by omega, by omega, by go_num, HR.out⟩
                        case measure => simp [intOf]; omega
                      · have g2 : a3 = 2 := Decidable.not_not.1 g2n
                        have H2 := hid_i g2
                        have q2 : (a3 == 2) = true := by simpa using g2
                        clear g2 g2n
                        by_cases g3n : ¬ (t1 = t3)
                        · have HR := hid_i (HNO.out (Bool.eq_false_iff.2 fun h => g3n ((HLB.out.1 h).2.2.2.1)))
                          have q3 : (t1 == t3) = false := by simpa using g3n
                          clear g3n
                          go_wp2_with fail
                          go_roundw
                          case rel => exact ⟨j + 1, by omega, by omega, by go_num, HR.out⟩
                          case measure => simp [intOf]; omega
                        · have g3 : t1 = t3 := Decidable.not_not.1 g3n
                          have H3 := hid_i g3
                          have q3 : (t1 == t3) = true := by simpa using g3
                          clear g3 g3n
                          by_cases g4 : t1 = t2
                          · have HR := hid_i (HNO.out (Bool.eq_false_iff.2 fun h => (HLB.out.1 h).2.2.2.2.1 g4))
                            have q4 : (t1 != t2) = false := by simpa using g4
                            clear g4
                            go_wp2_with fail
                            go_roundw
                            case rel => exact ⟨j + 1, by omega, by omega, by go_num, HR.out⟩
                            case measure => simp [intOf]; omega
                          · have H4 := hid_i g4
                            have q4 : (t1 != t2) = true := by simpa using g4
                            clear g4
                            by_cases g5n : ¬ (i1 = i2)
                            · have HR := hid_i (HNO.out (Bool.eq_false_iff.2 fun h => g5n ((HLB.out.1 h).2.2.2.2.2.1)))
                              have q5 : (i1 == i2) = false := by simpa using g5n
                              clear g5n
                              go_wp2_with fail
                              go_roundw
                              case rel => exact ⟨j + 1, by omega, by omega, by go_num, HR.out⟩
                              case measure => simp [intOf]; omega
                            · have g5 : i1 = i2 := Decidable.not_not.1 g5n
                              have H5 := hid_i g5
                              have q5 : (i1 == i2) = true := by simpa using g5
                              clear g5 g5n
                              by_cases g6n : ¬ (i1 = i3)
                              · have HR := hid_i (HNO.out (Bool.eq_false_iff.2 fun h => g6n ((HLB.out.1 h).2.2.2.2.2.2.1)))
                                have q6 : (i1 == i3) = false := by simpa using g6n
                                clear g6n
                                go_wp2_with fail
                                go_roundw
                                case rel => exact ⟨j + 1, by omega, by omega, by go_num, HR.out⟩
                                case measure => simp [intOf]; omega
                              · have g6 : i1 = i3 := Decidable.not_not.1 g6n
                                have H6 := hid_i g6
                                have q6 : (i1 == i3) = true := by simpa using g6
                                clear g6 g6n
                                by_cases g7n : ¬ (en = 3)
                                · have HR := hid_i (HNO.out (Bool.eq_false_iff.2 fun h => g7n ((HLB.out.1 h).2.2.2.2.2.2.2)))
                                  have q7 : (en == 3) = false := by simpa using g7n
                                  clear g7n
                                  go_wp2_with fail
                                  refine (HEN1.out W1 HS7.out.old).mono ?_
                                  rintro e w2 ⟨rfl, hw2⟩
                                  rw [hw2]
                                  clear hw2
                                  go_wp2_with fail
                                  go_roundw
                                  case rel => exact ⟨j + 1, by omega, by omega, by go_num, HR.out⟩
                                  case measure => simp [intOf]; omega
                                · have g7 : en = 3 := Decidable.not_not.1 g7n
                                  have q7 : (en == 3) = true := by simpa using g7
                                  have HYS := hid_i (HSU.out (W1.setCell ⟨U, 3, none⟩ (.bool true)) true (HLB.out.2 ⟨H0.out, H1.out, H2.out, H3.out, H4.out, H5.out, H6.out, g7⟩) (by rw [Bool.or_true]; exact HS7.out.put (k := 3) (v := .bool true) rfl))
                                  obtain ⟨-, -, -, u3⟩ := HS7.out.cells
                                  have y3 := HS7.out.thaw 3
                                  clear g7 g7n
                                  go_wp2_with fail
                                  refine (HEN1.out W1 HS7.out.old).mono ?_
                                  rintro e w2 ⟨rfl, hw2⟩
                                  rw [hw2]
                                  clear hw2
                                  go_wp2_with fail
                                  go_roundw
                                  case rel => exact ⟨j + 1, by omega, by omega, by go_num, HYS.out⟩
                                  case measure => simp [intOf]; omega
                · have hjl' : ¬ (j : Int) < (i : Int) := by omega
                  have HS8 : Hid (IlSt w wr Z U b0 b1 b2 (lostI l p || lostK l p (k + 1))) := by show IlSt _ _ _ _ _ _ _ _; rw [lostK_succ l hpk, HN.out, ← Bool.or_assoc]; have h9 := HS6.out; rw [show j = i by omega] at h9; exact h9
                  clear HS6
                  go_wp2_with fail
                  go_roundw
                  case rel => exact ⟨k + 1, by omega, by omega, by go_num, HS8.out⟩
                  case measure => simp [intOf]; omega
            · have hkl' : ¬ (k : Int) < (i : Int) := by omega
              have HS8 : Hid (IlSt w wr Z U b0 b1 b2 (lostI l (p + 1))) := by show IlSt _ _ _ _ _ _ _ _; rw [lostI_succ, HN.out]; have h9 := HS4.out; rw [show k = i by omega] at h9; exact h9
              clear HS4
              go_wp2_with fail
              go_roundw
              case rel => exact ⟨p + 1, by omega, by go_num, HS8.out⟩
              case measure => simp [intOf]; omega
        · have hpl' : ¬ (p : Int) < (i : Int) := by omega
          obtain rfl : p = i := by omega
          obtain ⟨lo, hlo⟩ : ∃ x, lostI l p = x := ⟨_, rfl⟩
          rw [hlo] at HS2 HEND
          obtain ⟨u0, u1, u2, u3⟩ := HS2.out.cells
          have v0 : wr.cell? ⟨Z, 0, none⟩ = some (.bool false) := by rw [cell_of_row wr Z _ _ _ _ HS2.out.res]; rfl
          have v1 : wr.cell? ⟨Z, 1, none⟩ = some (.bool false) := by rw [cell_of_row wr Z _ _ _ _ HS2.out.res]; rfl
          have v2 : wr.cell? ⟨Z, 2, none⟩ = some (.bool false) := by rw [cell_of_row wr Z _ _ _ _ HS2.out.res]; rfl
          have v3 : wr.cell? ⟨Z, 3, none⟩ = some (.bool false) := by rw [cell_of_row wr Z _ _ _ _ HS2.out.res]; rfl
          have y0 : wr.frozen? ⟨Z, 0, none⟩ = false := by simp [World.frozen?, HS2.out.res]
          have y1 : wr.frozen? ⟨Z, 1, none⟩ = false := by simp [World.frozen?, HS2.out.res]
          have y2 : wr.frozen? ⟨Z, 2, none⟩ = false := by simp [World.frozen?, HS2.out.res]
          have y3 : wr.frozen? ⟨Z, 3, none⟩ = false := by simp [World.frozen?, HS2.out.res]
          have HFI := hid_i HS2.out.fin
          clear hlo hp hpl
          go_wp2_with fail
          exact bodyPost_ret (v := .tuple #[.agg #[.bool b0, .bool b1, .bool b2, .bool lo], .int .i64 f1]) (results_illsQ Tryd.results7 _ _ Z 25 #[.bool b0, .bool b1, .bool b2, .bool lo] (0, 0) _ (.int .i64 f1) rfl rfl HFI.out.1 Tryd.underlying25 rfl ills_info) rfl ⟨by rw [HEND.out], HFI.out.2⟩
end Go.Proofs.YtjcaekhkeobhpahDoor
