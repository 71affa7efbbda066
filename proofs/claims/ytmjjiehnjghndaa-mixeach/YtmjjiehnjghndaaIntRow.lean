/-
  PROVED HERE: how a list of numbers lies in memory, as a slice value that came in or that the program made itself; and what is owned stays owned where nothing that was there turns.
  Conditions: none.
-/
import Derived.Test.YtmjjiehnjghndaaProg
import Derived.WalkKit
import Derived.WalkSpells
import Derived.Handy
namespace Go.Proofs.Ytmjjiehnjghndaa
open Go.RowKit

/-- A slice value that holds a list of numbers. -/
def IsInts (w : World) (v : Value) (l : List Int) : Prop :=
  ∃ (ad : Option Addr) (b off cap : Nat), v = .slice ad l.length cap ∧ (0 < l.length → ad = some ⟨b, off, none⟩) ∧ (ad = none → l.length = 0 ∧ cap = 0) ∧ (b < w.heap.size ∨ l = []) ∧ ∀ i, i < l.length → w.cell? ⟨b, off + i, none⟩ = some (.int .i64 (l.getD i 0))
theorem IsInts.below {w w1 : World} {B : Nat} {v : Value} {l : List Int} (h : IsInts w v l) (hb : Below B w w1) (hB : w.heap.size ≤ B) : IsInts w1 v l := by
  obtain ⟨ad, b, off, cap, hv, ha, hn, hbB, hc⟩ := h
  have hs := hb.size
  refine ⟨ad, b, off, cap, hv, ha, hn, ?_, fun i hi => ?_⟩
  · rcases hbB with h | h
    · exact .inl (by omega)
    · exact .inr h
  · rcases hbB with h | h
    · rw [hb.cell (p := ⟨b, off + i, none⟩) (by simp; omega)]; exact hc i hi
    · subst h; simp at hi
theorem isInts_nil (w : World) : IsInts w (.slice none 0 0) [] := ⟨none, 0, 0, 0, rfl, fun h => absurd h (by simp), fun _ => ⟨rfl, rfl⟩, .inr rfl, fun i hi => by simp at hi⟩
theorem isInts_own {w : World} {base e n : Nat} {v : Value} {l : List Int} (h : w.ownsRow base e 1 v n (l.map (Value.int .i64))) (hl : l.length = n) : IsInts w v l := by
  have h' := h
  obtain ⟨_, ⟨hv, hd⟩ | ⟨g, cap, cur, hv, hb, hg, hn, hm, hsz, htk⟩⟩ := h'
  · have : l = [] := List.length_eq_zero_iff.1 (by omega)
    subst this
    rw [hv]
    exact isInts_nil w
  · refine ⟨some ⟨g, 0, none⟩, g, 0, cap, by rw [hl]; exact hv, fun _ => rfl, fun h => (by simp at h), .inl (h.lt g (by rw [hv]; rfl)).2, fun i hi => ?_⟩
    have := h.cells (g := g) (by rw [hv]; rfl) i (.int .i64 (l.getD i 0)) (by simp [List.getD, hi])
    rw [Addr.add_lit] at this
    exact this
/-- What is owned stays owned where nothing that was there turns. -/
theorem own_below {w w1 : World} {base e size n B : Nat} {v : Value} {xs : List Value} (h : w.ownsRow base e size v n xs) (hb : Below B w w1) (hB : w.heap.size ≤ B) : w1.ownsRow base e size v n xs := by
  have h' := h
  obtain ⟨hl, hd | ⟨g, cap, cur, hv, hbg, hg, hn, hm, hsz, htk⟩⟩ := h
  · exact ⟨hl, .inl hd⟩
  · refine ⟨hl, .inr ⟨g, cap, cur, hv, hbg, ?_, hn, hm, hsz, htk⟩⟩
    have hlt : g < w.heap.size := (h'.lt g (by rw [hv]; rfl)).2
    rw [hb.block g (by omega)]; exact hg
theorem infoInt : (Try.prog.info? 3).map (fun i => (i.zero, i.size, i.bytes)) = some (some (.int .i64 0), 1, 8) := by kernel_rfl
end Go.Proofs.Ytmjjiehnjghndaa
