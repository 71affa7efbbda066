/-
  PROVED HERE: how a list of lists of whole numbers among the arguments of the laws reads, out of its data.
  Conditions: none of this text's own.
-/
import Derived.Test.YtaodbljpihcjnaaDoorOpenInts
import Derived.Test.YtaodbljpihcjnaaDoorSkRows
namespace Go.Proofs.YtaodbljpihcjnaaDoor
open Go.ChangeShapes Go.WideShapes Go.ChangeAt Go.RowKit

theorem cellsRow : Tryd.prog.cellsOf 31 = 1 := by kernel_rfl
/-- One row, out of its reading. -/
theorem open_ints {H : Type} {enc : TypeId × Value → H} {w : World} {fuel : Nat} {v : Value} {x : DataW H × List MemPlace}
    (h : DataW.trod enc Tryd.prog w 0 (fun _ => true) true fuel 31 [v] = some x) : ∃ l : List Int, IsInts w v l := by
  have hs : ∃ a len cap, v = .slice a len cap := by
    rcases Deep.open_slice Tryd.underlying31 h with ⟨hc, _⟩ | ⟨a, len', cap', _, _, _, _, hc, _⟩
    · simp only [List.cons.injEq, and_true] at hc
      exact ⟨_, _, _, hc⟩
    · simp only [List.cons.injEq, and_true] at hc
      exact ⟨_, _, _, hc⟩
  obtain ⟨a, len, cap, rfl⟩ := hs
  obtain ⟨l, b, off, rfl, ha, hn, hc, _, _⟩ := open_row h
  refine ⟨l, a, b, off, cap, rfl, ha, hn, ?_, hc⟩
  rcases Nat.eq_zero_or_pos l.length with h0 | h0
  · exact .inr (List.length_eq_zero_iff.1 h0)
  · exact .inl (World.block_lt_of_cell? w _ (hc 0 h0))
/-- A list of lists of numbers, out of its reading. -/
theorem open_rows {H : Type} {enc : TypeId × Value → H} {w : World} {fuel : Nat} {a0 : Option Addr} {len cap : Nat} {x : DataW H × List MemPlace}
    (h : DataW.trod enc Tryd.prog w 0 (fun _ => true) true fuel 22 [.slice a0 len cap] = some x) :
    ∃ rs : List (List Int), rs.length = len ∧ IsRows w (.slice a0 rs.length cap) rs := by
  rcases Deep.open_slice Tryd.underlying22 h with ⟨hc, hx⟩ | ⟨a, len', cap', m, n, D, Pl, hc, _, hl, hm, hmm, hx, hall⟩
  · simp only [List.cons.injEq, and_true, Value.slice.injEq] at hc
    obtain ⟨rfl, rfl, rfl⟩ := hc
    exact ⟨[], rfl, none, 0, 0, 0, rfl, fun h => absurd h (by simp), .inr rfl, fun i hi => by simp at hi⟩
  · simp only [List.cons.injEq, and_true, Value.slice.injEq] at hc
    obtain ⟨rfl, rfl, rfl⟩ := hc
    simp only [if_true] at hmm
    subst hmm
    rw [cellsRow] at hall
    have each : ∀ i, i < m → ∃ o : Value × List Int, w.cell? (a.add i) = some o.1 ∧ IsInts w o.1 o.2 := by
      intro i hi
      obtain ⟨cs', h1, h2⟩ := hall i hi
      obtain ⟨_, hlen, hcell⟩ := World.cells?_some h1
      obtain ⟨v0, rfl⟩ := one_of hlen
      obtain ⟨l0, hl0⟩ := open_ints h2
      have e0 := hcell 0 (by omega)
      rw [Deep.add_add] at e0
      exact ⟨(v0, l0), by simpa using e0, hl0⟩
    by_cases h0 : len = 0
    · subst h0
      exact ⟨[], rfl, some a, 0, 0, _, rfl, fun h => absurd h (by simp), .inr rfl, fun i hi => by simp at hi⟩
    · obtain ⟨b, off, spot⟩ := a
      obtain ⟨o0, c0, _⟩ := each 0 (by omega)
      have hspot : spot = none := by simpa [Addr.add] using World.cell?_spot c0
      subst hspot
      obtain ⟨F, hF⟩ := Deep.choose_lt each
      refine ⟨(List.range len).map fun i => (F i).2, by simp, some ⟨b, off, none⟩, b, off, _, rfl, fun _ => rfl, .inl ?_, fun i hi => ?_⟩
      · exact World.block_lt_of_cell? w _ c0
      · have hi' : i < len := by simpa using hi
        obtain ⟨e0, e1⟩ := hF i (by omega)
        have hget : ((List.range len).map fun i => (F i).2).getD i [] = (F i).2 := by simp [List.getD, hi']
        rw [hget]
        rw [Addr.add_lit] at e0
        exact ⟨_, e0, e1⟩
end Go.Proofs.YtaodbljpihcjnaaDoor
