/-
  PROVED HERE: how a list of ops lies in memory, as a slice value that came in or that the program made itself; history.Check over such a value.
  Conditions: none.
  (Of these, what the claim wants: the rest was left out.)
-/
import Derived.Test.YtmjjiehnjghndaaCheck
namespace Go.Proofs.Ytmjjiehnjghndaa
open Go.RowKit

/-- The cells of ops. -/
def flat : List Op3 → List Value
  | [] => []
  | o :: r => .int .i64 o.1 :: .int .i64 o.2.1 :: .int .i64 o.2.2 :: flat r
theorem flat_length (l : List Op3) : (flat l).length = l.length * 3 := by
  induction l with
  | nil => rfl
  | cons o r ih => simp [flat, ih]; omega
theorem flat_append (l m : List Op3) : flat (l ++ m) = flat l ++ flat m := by
  induction l with
  | nil => rfl
  | cons o r ih => simp [flat, ih]
theorem flat_one (l : List Op3) : ∀ u ∈ flat l, u.oneCell' = true := by
  induction l with
  | nil => intro u hu; cases hu
  | cons o r ih =>
    intro u hu
    simp only [flat, List.mem_cons] at hu
    rcases hu with rfl | rfl | rfl | hu
    · rfl
    · rfl
    · rfl
    · exact ih u hu
theorem flat_at (l : List Op3) : ∀ i, i < l.length → (flat l)[i * 3]? = some (.int .i64 (l.getD i (0, 0, 0)).1) ∧ (flat l)[i * 3 + 1]? = some (.int .i64 (l.getD i (0, 0, 0)).2.1) ∧ (flat l)[i * 3 + 2]? = some (.int .i64 (l.getD i (0, 0, 0)).2.2) := by
  induction l with
  | nil => intro i hi; cases hi
  | cons o r ih =>
    intro i hi
    cases i with
    | zero => exact ⟨rfl, rfl, rfl⟩
    | succ i =>
      have := ih i (by simpa using hi)
      rw [show (i + 1) * 3 = i * 3 + 3 by omega]
      simpa [flat] using this
/-- From cells to ops, and back. -/
theorem opsAt_of {w : World} {b off : Nat} {l : List Op3} (h : ∀ j u, (flat l)[j]? = some u → w.cell? ⟨b, off + j, none⟩ = some u) : OpsAt w b off l := by
  intro i hi
  obtain ⟨h0, h1, h2⟩ := flat_at l i hi
  exact ⟨h _ _ h0, by rw [Nat.add_assoc]; exact h _ _ h1, by rw [Nat.add_assoc]; exact h _ _ h2⟩
theorem OpsAt.flat {w : World} {b off : Nat} {l : List Op3} (h : OpsAt w b off l) : ∀ j u, (flat l)[j]? = some u → w.cell? ⟨b, off + j, none⟩ = some u := by
  intro j u hj
  have hlt : j < l.length * 3 := by
    rw [← flat_length]
    exact (List.getElem?_eq_some_iff.1 hj).1
  obtain ⟨c0, c1, c2⟩ := h (j / 3) (by omega)
  obtain ⟨f0, f1, f2⟩ := flat_at l (j / 3) (by omega)
  rcases (show j = j / 3 * 3 ∨ j = j / 3 * 3 + 1 ∨ j = j / 3 * 3 + 2 by omega) with e | e | e
  · rw [← e] at c0 f0; rw [f0] at hj; rw [c0, ← hj]
  · rw [Nat.add_assoc, ← e] at c1; rw [← e] at f1; rw [f1] at hj; rw [c1, ← hj]
  · rw [Nat.add_assoc, ← e] at c2; rw [← e] at f2; rw [f2] at hj; rw [c2, ← hj]
theorem OpsAt.below {w w1 : World} {b off B : Nat} {l : List Op3} (h : OpsAt w b off l) (hb : Below B w w1) (hB : b < B ∨ l = []) : OpsAt w1 b off l := by
  intro i hi
  have hB' : b < B := by
    rcases hB with h | h
    · exact h
    · subst h; cases hi
  rw [hb.cell (p := ⟨b, off + i * 3, none⟩) hB', hb.cell (p := ⟨b, off + i * 3 + 1, none⟩) hB', hb.cell (p := ⟨b, off + i * 3 + 2, none⟩) hB']
  exact h i hi


theorem infoOp : (Try.prog.info? 24).map (fun i => (i.zero, i.size, i.bytes)) = some (some (.agg #[.int .i64 0, .int .i64 0, .int .i64 0]), 3, 24) := by kernel_rfl

/-- A slice value that holds a list of ops. -/
def IsOps (w : World) (v : Value) (l : List Op3) : Prop :=
  ∃ (ad : Option Addr) (b off cap : Nat), v = .slice ad l.length cap ∧ (0 < l.length → ad = some ⟨b, off, none⟩) ∧ (ad = none → l.length = 0 ∧ cap = 0) ∧ (b < w.heap.size ∨ l = []) ∧ OpsAt w b off l
theorem IsOps.below {w w1 : World} {B : Nat} {v : Value} {l : List Op3} (h : IsOps w v l) (hb : Below B w w1) (hB : w.heap.size ≤ B) : IsOps w1 v l := by
  obtain ⟨ad, b, off, cap, hv, ha, hn, hbB, hops⟩ := h
  have hs := hb.size
  refine ⟨ad, b, off, cap, hv, ha, hn, ?_, hops.below hb ?_⟩
  · rcases hbB with h | h
    · exact .inl (by omega)
    · exact .inr h
  · rcases hbB with h | h
    · exact .inl (by omega)
    · exact .inr h
theorem isOps_nil (w : World) : IsOps w (.slice none 0 0) [] := ⟨none, 0, 0, 0, rfl, fun h => absurd h (by simp), fun _ => ⟨rfl, rfl⟩, .inr rfl, fun i hi => by simp at hi⟩
theorem isOps_own {w : World} {base e n : Nat} {v : Value} {l : List Op3} (h : w.ownsRow base e 3 v n (flat l)) (hl : l.length = n) : IsOps w v l := by
  have h' := h
  obtain ⟨_, ⟨hv, hd⟩ | ⟨g, cap, cur, hv, hb, hg, hn, hm, hsz, htk⟩⟩ := h'
  · have : l = [] := List.length_eq_zero_iff.1 (by omega)
    subst this
    rw [hv]
    exact isOps_nil w
  · refine ⟨some ⟨g, 0, none⟩, g, 0, cap, by rw [hl]; exact hv, fun _ => rfl, fun h => (by simp at h), .inl (h.lt g (by rw [hv]; rfl)).2, opsAt_of fun j u hj => ?_⟩
    have := h.cells (g := g) (by rw [hv]; rfl) j u hj
    rw [Addr.add_lit] at this
    exact this
theorem check_v (l : List Op3) (v : Value) (w : World) (h : IsOps w v l) :
    Calls Try.prog 20 #[v] w fun e w' => e = .returned (.tuple #[.int .i64 (chk l).1, errV (chk l).2]) ∧ Below w.heap.size w w' := by
  obtain ⟨ad, b, off, cap, rfl, ha, _, hbB, hops⟩ := h
  exact check_any l ad b off cap w ha hbB hops
theorem check_ok (l : List Op3) (v : Value) (w : World) (h : IsOps w v l) (hc : (chk l).2 = 0) :
    Calls Try.prog 20 #[v] w fun e w' => e = .returned (.tuple #[.int .i64 (chk l).1, .nilIface]) ∧ Below w.heap.size w w' := by
  refine (check_v l v w h).mono ?_
  rintro e w' ⟨he, hb⟩
  rw [hc] at he
  exact ⟨he, hb⟩
/-- One op just built lies there. -/
theorem one_at (w : World) (t a i : Int) : ∀ j u, (flat [(t, a, i)])[j]? = some u → (w.alloc (.cells #[.int .i64 t, .int .i64 a, .int .i64 i] 24)).cell? ((⟨w.heap.size, 0, none⟩ : Addr).add j) = some u := by
  intro j u hj
  match j, hj with
  | 0, hj => simp [flat] at hj; subst hj; simp [Addr.add]
  | 1, hj => simp [flat] at hj; subst hj; simp [Addr.add]
  | 2, hj => simp [flat] at hj; subst hj; simp [Addr.add]
  | k + 3, hj => simp [flat] at hj
end Go.Proofs.Ytmjjiehnjghndaa
