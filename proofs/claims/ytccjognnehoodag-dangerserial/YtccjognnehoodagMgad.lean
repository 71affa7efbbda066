/-
  PROVED HERE: history.Done gives the ops of the deals that commit, in order, of a list that is right; of any other Check's error. history.Of gives a deal's ops. Old memory stays as it was.
  Conditions: none.
  PROVED HERE: laneref1.Tx, History and Right answer as the plain functions say, whatever the list of ops; old memory stays as it was.
  Conditions: none.
-/
import Derived.Test.YtccjognnehoodagMgac
import Derived.Deep.QuietTactic
import Derived.BigQuiet
import Derived.WalkSmall
namespace Go.Proofs.Ytccjognnehoodag
open Go.RowKit

/-- Does a deal commit among these ops? -/
def commIn (l : List Op3) (t : Nat) : Bool := l.any fun o => o.1 == (t : Int) && o.2.1 == 3
def doneL (l : List Op3) : List Op3 := l.filter fun o => commIn l o.1.toNat
def ofL (l : List Op3) (tx : Int) : List Op3 := l.filter fun o => o.1 == tx
theorem commIn_snoc (l : List Op3) (o : Op3) (t : Nat) : commIn (l ++ [o]) t = (commIn l t || (o.1 == (t : Int) && o.2.1 == 3)) := by simp [commIn]
theorem chk_len {l : List Op3} (h : (chk l).2 = 0) : l.length ≤ 40 := by
  unfold chk at h
  split at h
  · simp at h
  · omega
theorem chk_ops {l : List Op3} (h : (chk l).2 = 0) : ∀ o ∈ l, isOpB o = true := by
  rw [chk_short l (chk_len h)] at h
  exact chkFrom_ops l [] h

/-- The array of those that commit. -/
def CommAt (w : World) (B : Nat) (l : List Op3) : Prop := ∀ j, j < 7 → w.cell? ⟨B, j, none⟩ = some (.bool (commIn l j)) ∧ w.frozen? ⟨B, j, none⟩ = false
theorem CommAt.lt {w : World} {B : Nat} {l : List Op3} (h : CommAt w B l) : B < w.heap.size := World.block_lt_of_cell? w _ (h 0 (by omega)).1
theorem comm_start (l : List Op3) (w : World) : CommAt (w.alloc (.cells #[.bool false, .bool false, .bool false, .bool false, .bool false, .bool false, .bool false] 105)) w.heap.size (List.take 0 l) := by
  intro j hj
  match j, hj with
  | 0, _ => exact ⟨by simp [commIn], by simp⟩
  | 1, _ => exact ⟨by simp [commIn], by simp⟩
  | 2, _ => exact ⟨by simp [commIn], by simp⟩
  | 3, _ => exact ⟨by simp [commIn], by simp⟩
  | 4, _ => exact ⟨by simp [commIn], by simp⟩
  | 5, _ => exact ⟨by simp [commIn], by simp⟩
  | 6, _ => exact ⟨by simp [commIn], by simp⟩
theorem CommAt.same {w : World} {B : Nat} {l : List Op3} {t a i : Int} (h : CommAt w B l) (ha : a ≠ 3) (o1 : Obj) : CommAt (w.alloc o1) B (l ++ [(t, a, i)]) := by
  have hlt := h.lt
  intro j hj
  obtain ⟨hc, hf⟩ := h j hj
  constructor
  · rw [World.cell?_alloc_lt _ _ ⟨B, j, none⟩ hlt, commIn_snoc, hc]
    simp [ha]
  · rw [World.frozen?_alloc_old _ _ ⟨B, j, none⟩ (by simp; omega)]; exact hf
theorem CommAt.step {w : World} {B : Nat} {l : List Op3} {t i : Int} (h : CommAt w B l) (h1 : 1 ≤ t) (h6 : t ≤ 6) (o1 : Obj) : CommAt ((w.setCell ⟨B, t.toNat, none⟩ (.bool true)).alloc o1) B (l ++ [(t, 3, i)]) := by
  have hlt := h.lt
  intro j hj
  obtain ⟨hc, hf⟩ := h j hj
  obtain ⟨hct, _⟩ := h t.toNat (by omega)
  constructor
  · rw [World.cell?_alloc_lt _ _ ⟨B, j, none⟩ (by simp; omega), commIn_snoc]
    by_cases hjt : j = t.toNat
    · subst hjt
      rw [World.cell?_setCell_same _ _ _ hct, show ((t.toNat : Nat) : Int) = t by omega]; simp
    · rw [World.cell?_setCell_other _ _ _ _ (by intro he; injection he with _ he2 _; exact hjt he2.symm), hc]
      have : (t == (j : Int)) = false := by simp; omega
      simp [this]
  · rw [World.frozen?_alloc_old _ _ ⟨B, j, none⟩ (by simp; omega)]
    simpa using hf

end Go.Proofs.Ytccjognnehoodag

namespace Go.Proofs.Ytccjognnehoodag
open Go.RowKit

theorem refTx_any (t : Int) (w : World) : Calls Try.prog 28 #[.int .i64 t] w fun e w' => e = .returned (.bool (decide (1 ≤ t) && decide (t ≤ 6))) ∧ w' = w := by
  by_cases h : 1 ≤ t
  · go_enter Try.func28, Try.ntmps28
    go_wp2
    go_ret
    exact ⟨ret_bool (by simp [h]), rfl⟩
  · go_enter Try.func28, Try.ntmps28
    go_wp2
    go_ret
    exact ⟨ret_bool (by simp; omega), rfl⟩
theorem isOp_cases {t a i : Int} (h : isOpB (t, a, i) = false) : (decide (1 ≤ t) && decide (t ≤ 6)) = false ∨ ((decide (1 ≤ t) && decide (t ≤ 6)) = true ∧ (a < 1 ∨ (1 ≤ a ∧ 4 < a) ∨ (1 ≤ a ∧ a ≤ 4 ∧ 3 ≤ a ∧ i ≠ 0) ∨ (1 ≤ a ∧ a < 3 ∧ i < 1) ∨ (1 ≤ a ∧ a < 3 ∧ 1 ≤ i ∧ 6 < i))) := by
  cases hq : (decide (1 ≤ t) && decide (t ≤ 6)) with
  | false => exact .inl rfl
  | true =>
    refine .inr ⟨rfl, ?_⟩
    simp at hq
    by_cases h1 : a < 1
    · exact .inl h1
    · by_cases h2 : 4 < a
      · exact .inr (.inl ⟨by omega, h2⟩)
      · by_cases h3 : 3 ≤ a
        · refine .inr (.inr (.inl ⟨by omega, by omega, h3, fun h0 => ?_⟩))
          have he : endsB a = true := by
            rcases (show a = 3 ∨ a = 4 by omega) with rfl | rfl <;> rfl
          simp [isOpB, he, h0] at h; omega
        · have he : endsB a = false := by
            rcases (show a = 1 ∨ a = 2 by omega) with rfl | rfl <;> rfl
          by_cases h4 : i < 1
          · exact .inr (.inr (.inr (.inl ⟨by omega, by omega, h4⟩)))
          · refine .inr (.inr (.inr (.inr ⟨by omega, by omega, by omega, ?_⟩)))
            simp [isOpB, he] at h; omega
theorem isOp_good {t a i : Int} (h : isOpB (t, a, i) = true) : (decide (1 ≤ t) && decide (t ≤ 6)) = true ∧ 1 ≤ a ∧ a ≤ 4 ∧ ((3 ≤ a ∧ i = 0) ∨ (a < 3 ∧ 1 ≤ i ∧ i ≤ 6)) := by
  simp [isOpB] at h
  obtain ⟨⟨⟨⟨h1, h2⟩, h3⟩, h4⟩, h5⟩ := h
  refine ⟨by simp; omega, by omega, by omega, ?_⟩
  by_cases ha : 3 ≤ a
  · have he : endsB a = true := by rcases (show a = 3 ∨ a = 4 by omega) with rfl | rfl <;> rfl
    simp [he] at h5
    exact .inl ⟨ha, h5⟩
  · have he : endsB a = false := by rcases (show a = 1 ∨ a = 2 by omega) with rfl | rfl <;> rfl
    simp [he] at h5
    exact .inr ⟨by omega, h5.1, h5.2⟩
theorem ret_two {x y a b : Int} (h : x = y) (h2 : a = b) : Ending.returned (.tuple #[.int .i64 x, .int .i64 a]) = .returned (.tuple #[.int .i64 y, .int .i64 b]) := by rw [h, h2]
theorem endedIn_drop {l : List Op3} {j : Nat} {o : Op3} (ht : l.take (j + 1) = l.take j ++ [o]) (t : Int) : endedIn (l.take (j + 1)) t = (endedIn (l.take j) t || (o.1 == t && endsB o.2.1)) := by
  rw [ht, endedIn_snoc]
theorem endedIn_mono {l : List Op3} {j k : Nat} (h : j ≤ k) (t : Int) (he : endedIn (l.take j) t = true) : endedIn (l.take k) t = true := by
  simp only [endedIn, List.any_eq_true] at he ⊢
  obtain ⟨o, ho, h2⟩ := he
  have : l.take j = (l.take k).take j := by rw [List.take_take, Nat.min_eq_left h]
  rw [this] at ho
  exact ⟨o, List.mem_of_mem_take ho, h2⟩

end Go.Proofs.Ytccjognnehoodag
