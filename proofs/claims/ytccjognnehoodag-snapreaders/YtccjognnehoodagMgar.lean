/-
  PROVED HERE: laneref2.who answers as the plain whoK says. Nothing turns.
  Conditions: the lists are short.
  PROVED HERE: laneref1.Tx, History and Right answer as the plain functions say, whatever the list of ops; old memory stays as it was.
  Conditions: none.
-/
import Derived.Test.YtccjognnehoodagMgaq
import Derived.Test.YtccjognnehoodagMgac
import Derived.Test.YtccjognnehoodagMgad
import Derived.Deep.QuietTactic
import Derived.BigQuiet
import Derived.WalkSmall
namespace Go.Proofs.Ytccjognnehoodag
open Go.RowKit

/-- A slice value that holds deals of a run. -/
def IsDeals (w : World) (v : Value) (ds : List Int) (of : Int → Dl) : Prop :=
  ∃ (ad : Option Addr) (b off cap : Nat), v = .slice ad ds.length cap ∧ (0 < ds.length → ad = some ⟨b, off, none⟩) ∧ (b < w.heap.size ∨ ds = []) ∧ ∀ i, i < ds.length → ∃ sv wv, DlIs w (of (ds.getD i 0)) sv wv ∧
    w.cell? ⟨b, off + i * 5, none⟩ = some (.int .i64 (ds.getD i 0)) ∧ w.cell? ⟨b, off + i * 5 + 1, none⟩ = some (.int .i64 (of (ds.getD i 0)).began) ∧ w.cell? ⟨b, off + i * 5 + 2, none⟩ = some (.int .i64 (of (ds.getD i 0)).ended) ∧ w.cell? ⟨b, off + i * 5 + 3, none⟩ = some sv ∧ w.cell? ⟨b, off + i * 5 + 4, none⟩ = some wv
theorem IsDeals.below {w w1 : World} {B : Nat} {v : Value} {ds : List Int} {of : Int → Dl} (h : IsDeals w v ds of) (hb : Below B w w1) (hB : w.heap.size ≤ B) : IsDeals w1 v ds of := by
  obtain ⟨ad, b, off, cap, hv, ha, hbB, hc⟩ := h
  have hs := hb.size
  refine ⟨ad, b, off, cap, hv, ha, ?_, fun i hi => ?_⟩
  · rcases hbB with h | h
    · exact .inl (by omega)
    · exact .inr h
  · obtain ⟨sv, wv, hd, c⟩ := hc i hi
    rcases hbB with h | h
    · refine ⟨sv, wv, hd.below hb hB, ?_⟩
      rw [hb.cell (p := ⟨b, off + i * 5, none⟩) (by simp; omega), hb.cell (p := ⟨b, off + i * 5 + 1, none⟩) (by simp; omega), hb.cell (p := ⟨b, off + i * 5 + 2, none⟩) (by simp; omega), hb.cell (p := ⟨b, off + i * 5 + 3, none⟩) (by simp; omega), hb.cell (p := ⟨b, off + i * 5 + 4, none⟩) (by simp; omega)]
      exact c
    · subst h; simp at hi
theorem whoK_snoc (ds : List Int) (of : Int → Dl) (t item time below : Int) : whoK (ds ++ [t]) of item time below = if (!inB (of t).wrote item || decide (time ≤ (of t).ended)) = true then whoK ds of item time below else if below = 0 then t else if t < below ∧ whoK ds of item time below < t then t else whoK ds of item time below := by
  unfold whoK
  rw [List.foldl_append]
  rfl
theorem retN {a b : Int} (h : a = b) : Ending.returned (.int .i64 a) = .returned (.int .i64 b) := by rw [h]
end Go.Proofs.Ytccjognnehoodag

namespace Go.Proofs.Ytccjognnehoodag
open Go.RowKit

theorem refTx_any (t : Int) (w : World) : Calls Try.prog 28 #[.int .i64 t] w fun e w' => e = .returned (.bool (decide (1 ≤ t) && decide (t ≤ 6))) ∧ w' = w := by
  by_cases h : 1 ≤ t
  · go_enter Try.func28, Try.ntmps28
    go_wp2
    go_ret
    exact ⟨ret_bool (by simp [h]), rfl⟩
  · go_enter Try.func28, Try.ntmps28
    go_wp2
    go_ret
    exact ⟨ret_bool (by simp; omega), rfl⟩
theorem isOp_cases {t a i : Int} (h : isOpB (t, a, i) = false) : (decide (1 ≤ t) && decide (t ≤ 6)) = false ∨ ((decide (1 ≤ t) && decide (t ≤ 6)) = true ∧ (a < 1 ∨ (1 ≤ a ∧ 4 < a) ∨ (1 ≤ a ∧ a ≤ 4 ∧ 3 ≤ a ∧ i ≠ 0) ∨ (1 ≤ a ∧ a < 3 ∧ i < 1) ∨ (1 ≤ a ∧ a < 3 ∧ 1 ≤ i ∧ 6 < i))) := by
  cases hq : (decide (1 ≤ t) && decide (t ≤ 6)) with
  | false => exact .inl rfl
  | true =>
    refine .inr ⟨rfl, ?_⟩
    simp at hq
    by_cases h1 : a < 1
    · exact .inl h1
    · by_cases h2 : 4 < a
      · exact .inr (.inl ⟨by omega, h2⟩)
      · by_cases h3 : 3 ≤ a
        · refine .inr (.inr (.inl ⟨by omega, by omega, h3, fun h0 => ?_⟩))
          have he : endsB a = true := by
            rcases (show a = 3 ∨ a = 4 by omega) with rfl | rfl <;> rfl
          simp [isOpB, he, h0] at h; omega
        · have he : endsB a = false := by
            rcases (show a = 1 ∨ a = 2 by omega) with rfl | rfl <;> rfl
          by_cases h4 : i < 1
          · exact .inr (.inr (.inr (.inl ⟨by omega, by omega, h4⟩)))
          · refine .inr (.inr (.inr (.inr ⟨by omega, by omega, by omega, ?_⟩)))
            simp [isOpB, he] at h; omega
theorem isOp_good {t a i : Int} (h : isOpB (t, a, i) = true) : (decide (1 ≤ t) && decide (t ≤ 6)) = true ∧ 1 ≤ a ∧ a ≤ 4 ∧ ((3 ≤ a ∧ i = 0) ∨ (a < 3 ∧ 1 ≤ i ∧ i ≤ 6)) := by
  simp [isOpB] at h
  obtain ⟨⟨⟨⟨h1, h2⟩, h3⟩, h4⟩, h5⟩ := h
  refine ⟨by simp; omega, by omega, by omega, ?_⟩
  by_cases ha : 3 ≤ a
  · have he : endsB a = true := by rcases (show a = 3 ∨ a = 4 by omega) with rfl | rfl <;> rfl
    simp [he] at h5
    exact .inl ⟨ha, h5⟩
  · have he : endsB a = false := by rcases (show a = 1 ∨ a = 2 by omega) with rfl | rfl <;> rfl
    simp [he] at h5
    exact .inr ⟨by omega, h5.1, h5.2⟩
theorem ret_two {x y a b : Int} (h : x = y) (h2 : a = b) : Ending.returned (.tuple #[.int .i64 x, .int .i64 a]) = .returned (.tuple #[.int .i64 y, .int .i64 b]) := by rw [h, h2]
theorem endedIn_drop {l : List Op3} {j : Nat} {o : Op3} (ht : l.take (j + 1) = l.take j ++ [o]) (t : Int) : endedIn (l.take (j + 1)) t = (endedIn (l.take j) t || (o.1 == t && endsB o.2.1)) := by
  rw [ht, endedIn_snoc]
theorem endedIn_mono {l : List Op3} {j k : Nat} (h : j ≤ k) (t : Int) (he : endedIn (l.take j) t = true) : endedIn (l.take k) t = true := by
  simp only [endedIn, List.any_eq_true] at he ⊢
  obtain ⟨o, ho, h2⟩ := he
  have : l.take j = (l.take k).take j := by rw [List.take_take, Nat.min_eq_left h]
  rw [this] at ho
  exact ⟨o, List.mem_of_mem_take ho, h2⟩

end Go.Proofs.Ytccjognnehoodag
