/-
  PROVED HERE: plain facts, with no word of the program: of deals 1 to n that come one behind the other a run with versions (chapter 14) does all; each saw the one ahead; the last one wrote last.
  Conditions: none.
  PROVED HERE: how an outcome lies in memory: in a box, and its lists.
  Conditions: none.
-/
import Derived.Test.YtccjognnehoodahMgba
import Derived.Test.YtccjognnehoodahMgac
import Derived.Test.YtccjognnehoodahMgad
namespace Go.Proofs.Ytccjognnehoodah

theorem seenL_one {of : Int → Dl} {x : Int → Op3} : ∀ {ds : List Int}, (∀ t ∈ ds, (of t).seen = [x t]) → seenL of ds = ds.map x := by
  intro ds
  induction ds with
  | nil => intro _; rfl
  | cons t r ih =>
    intro h
    have e : seenL of (t :: r) = (of t).seen ++ seenL of r := by unfold seenL; rw [List.flatMap_cons]
    rw [e, h t List.mem_cons_self, ih fun u hu => h u (List.mem_cons_of_mem _ hu)]
    rfl
theorem up_at {n i : Nat} (h : i < n) : (upTo n).getD i 0 = (i : Int) + 1 := by simp [upTo, h]
theorem up_mem {n : Nat} {t : Int} (h : t ∈ upTo n) : ∃ i : Nat, i < n ∧ t = (i : Int) + 1 := by
  unfold upTo at h
  obtain ⟨k, hk, rfl⟩ := List.mem_map.1 h
  exact ⟨k, List.mem_range.1 hk, by omega⟩
theorem up_by {n : Nat} (h : n ≤ 6) : byNum (upTo n) = upTo n := by
  rcases (show n = 0 ∨ n = 1 ∨ n = 2 ∨ n = 3 ∨ n = 4 ∨ n = 5 ∨ n = 6 by omega) with rfl | rfl | rfl | rfl | rfl | rfl | rfl <;> decide
theorem up_rise (n : Nat) : (upTo n).Pairwise (· < ·) := by
  unfold upTo
  rw [List.pairwise_map]
  exact List.pairwise_lt_range.imp fun h => by omega
theorem up_deals {n : Nat} (h : n ≤ 6) : Deals1 (upTo n) := by
  refine ⟨fun x hx => ?_, (up_rise n).imp fun hab e => by omega⟩
  obtain ⟨i, hi, rfl⟩ := up_mem hx
  omega
theorem ver_up {n : Nat} (h1 : 1 ≤ n) (hn : n ≤ 6) {a : Int} (ha : 1 ≤ a ∧ a ≤ 6) : ∃ se la, outU 4 okN true (piecesL a a (upTo n)) = ((upTo n, se, la), 0) ∧ se.length = n ∧ (∀ i, i < n → (opAt se i).2.2 = (i : Int)) ∧ la.length = 6 ∧ la.getD (a - 1).toNat 0 = (n : Int) := by
  have hc := pieces_chk ha ha (up_deals hn)
  have hlen : (upTo n).length = n := upTo_len n
  have hs := ser_vers (a := a) (b := a) (up_rise n) (fun t ht => ((up_deals hn).deal t ht).1) (upTo n).length (Nat.le_refl _)
  rw [← pieces_len a a] at hs
  have e1 := hs.done
  rw [List.take_length] at e1
  have hlast := hs.last (Nat.le_refl _)
  rw [e1] at hlast
  have hof : ∀ t ∈ upTo n, ((runK 4 okN (piecesL a a (upTo n)) (piecesL a a (upTo n)).length).of t).seen = [(t, a, t - 1)] := fun t ht => by
    obtain ⟨i, hi, rfl⟩ := up_mem ht
    have h9 := hs.of i (by omega)
    rw [up_at hi] at h9
    rw [h9]
    unfold serD prevS
    simp only
    rw [up_at hi]
    congr 3
    by_cases h0 : 0 < i
    · rw [if_pos ⟨trivial, h0⟩, up_at (by omega)]; omega
    · rw [if_neg (fun h => h0 h.2)]; omega
  refine ⟨_, _, by rw [outU_ok hc, e1]; show ((byNum (upTo n), _, _), _) = _; rw [up_by hn], ?_, ?_, lastL_len _ _, ?_⟩
  · show (seenL _ (byNum (upTo n))).length = n
    rw [up_by hn, seenL_one hof, List.length_map, hlen]
  · intro i hi
    show (opAt (seenL _ (byNum (upTo n))) i).2.2 = _
    rw [up_by hn, seenL_one hof, opAt_at (by rw [List.length_map, hlen]; exact hi), List.getElem_map]
    have h9 := up_at hi
    rw [List.getD_eq_getElem?_getD, List.getElem?_eq_getElem (by omega)] at h9
    simp only [Option.getD_some] at h9
    show (upTo n)[i] - 1 = _
    rw [h9]
    omega
  · show (lastL _ (byNum (upTo n))).getD (a - 1).toNat 0 = _
    rw [up_by hn]
    have h9 : (lastL (runK 4 okN (piecesL a a (upTo n)) (piecesL a a (upTo n)).length).of (upTo n)).getD (a - 1).toNat 0 = lastF6 (runK 4 okN (piecesL a a (upTo n)) (piecesL a a (upTo n)).length).of (upTo n) (a - 1).toNat := by
      have hj6 : (a - 1).toNat < 6 := by omega
      obtain ⟨j, hj⟩ : ∃ j, (a - 1).toNat = j := ⟨_, rfl⟩
      rw [hj] at hj6 ⊢
      simp [lastL, hj6]
    rw [h9]
    unfold lastF6
    rw [show (((a - 1).toNat : Nat) : Int) + 1 = a by omega, hlast]
    unfold prevS
    rw [if_pos ⟨rfl, by omega⟩, hlen, up_at (by omega)]
    omega
end Go.Proofs.Ytccjognnehoodah

namespace Go.Proofs.Ytccjognnehoodah
open Go.RowKit

/-- An outcome in a box. -/
def ObAt (w : World) (P : Nat) (a1 a2 a3 : Value) : Prop := w.cell? ⟨P, 0, none⟩ = some a1 ∧ w.cell? ⟨P, 1, none⟩ = some a2 ∧ w.cell? ⟨P, 2, none⟩ = some a3
theorem ObAt.below {w w1 : World} {P : Nat} {a1 a2 a3 : Value} (h : ObAt w P a1 a2 a3) (hb : Below w.heap.size w w1) : ObAt w1 P a1 a2 a3 :=
  have hl := World.block_lt_of_cell? w _ h.1
  ⟨(hb.cell (p := ⟨P, 0, none⟩) hl).trans h.1, (hb.cell (p := ⟨P, 1, none⟩) hl).trans h.2.1, (hb.cell (p := ⟨P, 2, none⟩) hl).trans h.2.2⟩
theorem obAt_new (w : World) (a1 a2 a3 : Value) (T : TypeId) : ObAt (w.alloc (.cells #[a1, a2, a3] T)) w.heap.size a1 a2 a3 := ⟨by simp, by simp, by simp⟩
/-- An outcome: its lists. -/
def OuIs (w : World) (a1 a2 a3 : Value) (x : List Int × List Op3 × List Int) : Prop := IsInts w a1 x.1 ∧ IsOps w a2 x.2.1 ∧ IsInts w a3 x.2.2
theorem OuIs.below {w w1 : World} {a1 a2 a3 : Value} {x : List Int × List Op3 × List Int} (h : OuIs w a1 a2 a3 x) (hb : Below w.heap.size w w1) : OuIs w1 a1 a2 a3 x := ⟨h.1.below hb (Nat.le_refl _), h.2.1.below hb (Nat.le_refl _), h.2.2.below hb (Nat.le_refl _)⟩
theorem OuIs.slices {w : World} {a1 a2 a3 : Value} {x : List Int × List Op3 × List Int} (h : OuIs w a1 a2 a3 x) : (∃ ad n c, a1 = .slice ad n c) ∧ (∃ ad n c, a2 = .slice ad n c) ∧ ∃ ad n c, a3 = .slice ad n c := by
  obtain ⟨⟨d1, _, _, c1, e1, _⟩, ⟨d2, _, _, c2, e2, _⟩, ⟨d3, _, _, c3, e3, _⟩⟩ := h
  exact ⟨⟨d1, _, c1, e1⟩, ⟨d2, _, c2, e2⟩, ⟨d3, _, c3, e3⟩⟩
end Go.Proofs.Ytccjognnehoodah
