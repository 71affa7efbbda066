/-
  PROVED HERE: plain facts, with no word of the program: of deals that come one behind the other the runs of chapters 11, 12 and 13 come to one and the same: all are done, and none ran at once.
  Conditions: none.
  PROVED HERE: how an outcome lies in memory: in a box, and its lists.
  Conditions: none.
-/
import Derived.Test.YtccjognnehoodagMgau
import Derived.Test.YtccjognnehoodagMgay
import Derived.Test.YtccjognnehoodagMgaz
import Derived.Test.YtccjognnehoodagMgac
import Derived.Test.YtccjognnehoodagMgad
namespace Go.Proofs.Ytccjognnehoodag

theorem seenL_congr {of of' : Int → Dl} : ∀ {ds : List Int}, (∀ t ∈ ds, of t = of' t) → seenL of ds = seenL of' ds := by
  intro ds
  induction ds with
  | nil => intro _; rfl
  | cons t r ih =>
    intro h
    have e : ∀ f : Int → Dl, seenL f (t :: r) = (f t).seen ++ seenL f r := fun f => by unfold seenL; rw [List.flatMap_cons]
    rw [e, e, h t List.mem_cons_self, ih fun u hu => h u (List.mem_cons_of_mem _ hu)]
theorem lastL_congr {of of' : Int → Dl} {ds : List Int} (h : ∀ t ∈ ds, of t = of' t) : lastL of ds = lastL of' ds := by
  unfold lastL
  congr 1
  funext i
  unfold lastF6
  exact lastK_congr h _
theorem ser_alike {a b : Int} {ps : List Int} {s s' : Kst} (h : Ser a b ps ps.length s) (h' : Ser a b ps ps.length s') : s.done = ps ∧ s'.done = ps ∧ ∀ t ∈ ps, s.of t = s'.of t := by
  have e1 := h.done
  have e2 := h'.done
  rw [List.take_length] at e1 e2
  refine ⟨e1, e2, fun t ht => ?_⟩
  obtain ⟨i, hi, e⟩ := take_mem (Nat.le_refl _) (by rw [List.take_length]; exact ht : t ∈ ps.take ps.length)
  rw [← e, h.of i hi, h'.of i hi]
/-- All three runs come to the same. -/
theorem ru_out {a b : Int} (ha : 1 ≤ a ∧ a ≤ 6) (hb : 1 ≤ b ∧ b ≤ 6) {ps : List Int} (hd : Deals1 ps) :
    outU 2 okS false (piecesL a b ps) = outU 1 okV false (piecesL a b ps) ∧ outU 3 okBtw false (piecesL a b ps) = outU 1 okV false (piecesL a b ps) ∧ (outU 1 okV false (piecesL a b ps)).1.1 = ps ∧ (outU 1 okV false (piecesL a b ps)).2 = 0 ∧
      (if (chk (piecesL a b ps)).2 ≠ 0 then [] else togL (runK 2 okS (piecesL a b ps) (piecesL a b ps).length).of (runK 2 okS (piecesL a b ps) (piecesL a b ps).length).done) = [] := by
  have hc := pieces_chk ha hb hd
  have hl := pieces_len a b ps
  have h1 := ser_valid (a := a) (b := b) hd.once ps.length (Nat.le_refl _)
  have h2 := ser_snap (a := a) (b := b) hd.once ps.length (Nat.le_refl _)
  rw [← hl] at h1 h2
  obtain ⟨e1, e2, e3⟩ := ser_alike h1 h2
  have o1 : outU 2 okS false (piecesL a b ps) = outU 1 okV false (piecesL a b ps) := by
    rw [outU_ok hc, outU_ok hc]
    show ((_, _, _), _) = ((_, _, _), _)
    have q1 : ordN false (runK 1 okV (piecesL a b ps) (piecesL a b ps).length).done = ps := e1
    have q2 : ordN false (runK 2 okS (piecesL a b ps) (piecesL a b ps).length).done = ps := e2
    rw [q1, q2, seenL_congr fun t ht => (e3 t ht).symm, lastL_congr fun t ht => (e3 t ht).symm]
  refine ⟨o1, ?_, ?_, ?_, ?_⟩
  · rw [← o1, outU_ok hc, outU_ok hc, ser_danger ha hb hd]
  · rw [outU_ok hc]; exact e1
  · rw [outU_ok hc]
  · rw [if_neg (by simpa using hc)]
    unfold togL
    refine List.filter_eq_nil_iff.2 fun e _ hf => ?_
    unfold togB at hf
    simp only [Bool.and_eq_true, decide_eq_true_eq] at hf
    have := h2.once (Nat.le_refl _) (inB_iff.1 hf.1.1) (inB_iff.1 hf.1.2) (by omega)
    rw [this] at hf
    exact absurd hf.2.2 (by decide)
end Go.Proofs.Ytccjognnehoodag

namespace Go.Proofs.Ytccjognnehoodag
open Go.RowKit

/-- An outcome in a box. -/
def ObAt (w : World) (P : Nat) (a1 a2 a3 : Value) : Prop := w.cell? ⟨P, 0, none⟩ = some a1 ∧ w.cell? ⟨P, 1, none⟩ = some a2 ∧ w.cell? ⟨P, 2, none⟩ = some a3
theorem ObAt.below {w w1 : World} {P : Nat} {a1 a2 a3 : Value} (h : ObAt w P a1 a2 a3) (hb : Below w.heap.size w w1) : ObAt w1 P a1 a2 a3 :=
  have hl := World.block_lt_of_cell? w _ h.1
  ⟨(hb.cell (p := ⟨P, 0, none⟩) hl).trans h.1, (hb.cell (p := ⟨P, 1, none⟩) hl).trans h.2.1, (hb.cell (p := ⟨P, 2, none⟩) hl).trans h.2.2⟩
theorem obAt_new (w : World) (a1 a2 a3 : Value) (T : TypeId) : ObAt (w.alloc (.cells #[a1, a2, a3] T)) w.heap.size a1 a2 a3 := ⟨by simp, by simp, by simp⟩
/-- An outcome: its lists. -/
def OuIs (w : World) (a1 a2 a3 : Value) (x : List Int × List Op3 × List Int) : Prop := IsInts w a1 x.1 ∧ IsOps w a2 x.2.1 ∧ IsInts w a3 x.2.2
theorem OuIs.below {w w1 : World} {a1 a2 a3 : Value} {x : List Int × List Op3 × List Int} (h : OuIs w a1 a2 a3 x) (hb : Below w.heap.size w w1) : OuIs w1 a1 a2 a3 x := ⟨h.1.below hb (Nat.le_refl _), h.2.1.below hb (Nat.le_refl _), h.2.2.below hb (Nat.le_refl _)⟩
theorem OuIs.slices {w : World} {a1 a2 a3 : Value} {x : List Int × List Op3 × List Int} (h : OuIs w a1 a2 a3 x) : (∃ ad n c, a1 = .slice ad n c) ∧ (∃ ad n c, a2 = .slice ad n c) ∧ ∃ ad n c, a3 = .slice ad n c := by
  obtain ⟨⟨d1, _, _, c1, e1, _⟩, ⟨d2, _, _, c2, e2, _⟩, ⟨d3, _, _, c3, e3, _⟩⟩ := h
  exact ⟨⟨d1, _, c1, e1⟩, ⟨d2, _, c2, e2⟩, ⟨d3, _, c3, e3⟩⟩
end Go.Proofs.Ytccjognnehoodag
