/-
  PROVED HERE: laneref1.Last gives who wrote each item last. Old memory stays as it was.
  Conditions: the list is short; each Write is of an item from 1 to 6.
-/
import Derived.Test.YtjaeaanpbdmfgabGreatDoorRefViewReads
import Derived.Test.YtjaeaanpbdmfgabGreatDoorIntRow
import Derived.Laws.Rows
import Derived.OwnWalk
namespace Go.Proofs.YtjaeaanpbdmfgabGreatDoor
open Go.RowKit

/-- Six numbers in a block: who wrote each item last. -/
def SixAt (w : World) (g : Nat) (l : List Op3) (k : Nat) : Prop := ∀ j, j < 6 → w.cell? ⟨g, j, none⟩ = some (.int .i64 (lastW l k ((j : Int) + 1)).1.1) ∧ w.frozen? ⟨g, j, none⟩ = false
theorem SixAt.drew {w : World} {g : Nat} {l : List Op3} {k : Nat} (h : SixAt w g l k) : SixAt w.drew g l k := h
theorem SixAt.set {w : World} {g : Nat} {l : List Op3} {k m : Nat} {t x : Int} (h : SixAt w g l k) (ho : opAt l k = (t, 2, x)) (h1 : x - 1 = (m : Int)) (h6 : m < 6) : SixAt (w.setCell ⟨g, m, none⟩ (.int .i64 t)) g l (k + 1) := by
  intro j hj
  obtain ⟨hc, hf⟩ := h j hj
  obtain ⟨hct, _⟩ := h m (by omega)
  constructor
  · by_cases e : j = m
    · subst e
      rw [World.cell?_setCell_same _ _ _ hct, lastW_hit (by rw [ho]) (by rw [ho]; show x = _; omega)]
      unfold nameAt
      rw [ho]
    · rw [World.cell?_setCell_other _ _ _ _ (by intro he; injection he with _ he2 _; exact e he2.symm), hc, lastW_pass (by rw [ho]; intro hh; have : x = (j : Int) + 1 := hh.2; omega)]
  · simpa using hf
theorem SixAt.pass {w : World} {g : Nat} {l : List Op3} {k : Nat} (h : SixAt w g l k) (ho : (opAt l k).2.1 ≠ 2) : SixAt w g l (k + 1) := fun j hj => by
  rw [lastW_pass fun hh => ho hh.1]
  exact h j hj
theorem six_start {w : World} {base g : Nat} {l : List Op3} {xs : List Value} (h : w.ownsRow base 3 1 (.slice (some ⟨g, 0, none⟩) 6 6) 6 xs) (hxs : xs = List.replicate 6 (Value.int .i64 0)) : SixAt w g l 0 := by
  subst hxs
  obtain ⟨_, ⟨hv, _⟩ | ⟨g', cap, cur, hv, _, hg, _, _, hsz, htk⟩⟩ := h
  · cases hv
  · simp only [Value.slice.injEq, Option.some.injEq, Addr.mk.injEq, and_true, true_and] at hv
    obtain ⟨rfl, rfl⟩ := hv
    intro j hj
    refine ⟨?_, by simp [World.frozen?, hg]⟩
    rw [cell_of_row w g j cur _ _ hg, lastW_zero]
    have h1 : (cur.toList.take (6 * 1))[j]? = some (Value.int .i64 0) := by rw [htk, List.getElem?_replicate, if_pos hj]
    rw [List.getElem?_take, if_pos (by omega), Array.getElem?_toList] at h1
    exact h1
set_option maxHeartbeats 8000000 in
theorem refLast_any (l : List Op3) (v : Value) (w : World) (hI : IsOps w v l) (hl : l.length ≤ 40) (hop : ∀ o ∈ l, isOpB o = true) :
    Calls Tryz.prog 18 #[v] w fun e w' => ∃ v', e = .returned v' ∧ IsInts w' v' ((List.range 6).map fun (i : Nat) => (lastW l l.length ((i : Int) + 1)).1.1) ∧ Below w.heap.size w w' := by
  obtain ⟨ad, b, off, cap, rfl, ha, -, hbB, hops⟩ := hI
  have HE : Hid (∀ W, Below w.heap.size w W → ∀ k, k < l.length → ad = some ⟨b, off, none⟩ ∧ b < w.heap.size ∧ W.cell? ⟨b, off + k * 3, none⟩ = some (.int .i64 (opAt l k).1) ∧ W.cell? ⟨b, off + k * 3 + 1, none⟩ = some (.int .i64 (opAt l k).2.1) ∧ W.cell? ⟨b, off + k * 3 + 2, none⟩ = some (.int .i64 (opAt l k).2.2)) := fun W hW k hk => by
    refine ⟨ha (by omega), ?_, (hops.below hW hbB) k hk⟩
    rcases hbB with h | h
    · exact h
    · subst h; simp at hk
  have HOP : Hid (∀ o ∈ l, isOpB o = true) := hop
  obtain ⟨i0, hi, hz0, hs0, hy0⟩ := info_parts infoInt
  have HI : Hid (Tryz.prog.info? 3 = some i0 ∧ i0.zero = some (.int .i64 0) ∧ i0.size = 1 ∧ i0.bytes = 8) := ⟨hi, hz0, hs0, hy0⟩
  clear ha hbB hops hop hi hz0 hs0 hy0
  go_enter Tryz.func18, Tryz.ntmps18
  go_wp2_with (at_make; refine wpList_make_full _ rfl (.const (.int .i64 6)) (.const (.int .i64 6)) 23 rfl w.heap.size 3 i0 (.int .i64 0) 1 Tryz.underlying23 HI.out.1 HI.out.2.1 HI.out.2.2.1 .i64 .i64 6 6 6 rfl rfl rfl rfl (by rw [HI.out.2.2.2]; omega) (by unfold maxLen; omega) (Nat.le_refl _) ?_; intro w1 hown1 hgr1)
  have HX1 : Hid (SixAt w1 w.heap.size l 0) := six_start hown1 (by simp [madeCells, Value.cells]; rfl)
  have HB1 : Hid (Below w.heap.size w w1) := ⟨hgr1.os, hgr1.tape, hgr1.output, hgr1.size, fun k hk => hgr1.block k hk (by simp)⟩
  clear hown1 hgr1
  go_loopw [4] (fun v4 wr => ∃ k : Nat, k ≤ l.length ∧ v4 = .int .i64 k ∧ SixAt wr w.heap.size l k ∧ Below w.heap.size w wr) (fun v4 _ => l.length - (intOf v4).toNat)
  case atStart => exact ⟨0, Nat.zero_le _, rfl, HX1.out, HB1.out⟩
  case round =>
    obtain ⟨k, hk, rfl, hsix, hbel⟩ := hrel
    have HX : Hid (SixAt wr w.heap.size l k) := hsix
    clear hsix HX1 HB1
    by_cases hlt : k < l.length
    · have hlt' : (k : Int) < (l.length : Int) := by omega
      obtain ⟨hadr, hbl, c0, c1, c2⟩ := HE.out wr hbel k hlt
      subst hadr
      obtain ⟨⟨t, a, x⟩, ho⟩ : ∃ o : Op3, opAt l k = o := ⟨_, rfl⟩
      have hisop := HOP.out _ (opAt_mem hlt)
      rw [ho] at c0 c1 c2 hisop
      simp only at c0 c1 c2
      have HO : Hid (opAt l k = (t, a, x)) := ho
      clear ho
      by_cases ha2 : a = 2
      · subst ha2
        obtain ⟨hx1, hx6⟩ := isOp_item hisop (.inr rfl)
        simp only at hx1 hx6
        obtain ⟨m, hxm⟩ : ∃ m : Nat, x - 1 = (m : Int) := ⟨(x - 1).toNat, by omega⟩
        have hm6 : (m : Int) < 6 := by omega
        have hwm : IntKind.i64.wrap (m : Int) = (m : Int) := by rw [IntKind.wrap_i64]; omega
        obtain ⟨f0, z0⟩ := HX.out m (by omega)
        have HXM : Hid (x - 1 = (m : Int)) := hxm
        have hbg : ¬ b = w.heap.size := by omega
        clear hisop
        go_wp2_with fail
        go_region
        all_goals
          go_wp2
          go_roundw
          case rel => exact ⟨k + 1, by omega, by go_num, (HX.out.set HO.out HXM.out (by omega)).drew, (hbel.setCell (by exact Nat.le_refl _) _).drew⟩
          case measure => simp [intOf]; omega
      · have ha2' : (a == 2) = false := by simpa using ha2
        have HP : Hid (SixAt wr w.heap.size l (k + 1)) := HX.out.pass (by rw [HO.out]; exact ha2)
        clear ha2 hisop
        go_wp2_with fail
        go_roundw
        case rel => exact ⟨k + 1, by omega, by go_num, HP.out, hbel⟩
        case measure => simp [intOf]; omega
    · have hlt' : ¬ (k : Int) < (l.length : Int) := by omega
      obtain rfl : k = l.length := by omega
      have HR : Hid (IsInts wr (.slice (some ⟨w.heap.size, 0, none⟩) 6 6) ((List.range 6).map fun (i : Nat) => (lastW l l.length ((i : Int) + 1)).1.1)) := by
        refine ⟨some ⟨w.heap.size, 0, none⟩, w.heap.size, 0, 6, by simp, fun _ => rfl, fun h => (by cases h), .inl (World.block_lt_of_cell? wr _ (HX.out 0 (by omega)).1), fun i hi => ?_⟩
        have hi6 : i < 6 := by simpa using hi
        rw [Nat.zero_add, (HX.out i hi6).1]
        simp [List.getD, hi6]
      go_wp2_with fail
      go_ret
      exact ⟨_, rfl, HR.out, hbel⟩
end Go.Proofs.YtjaeaanpbdmfgabGreatDoor
