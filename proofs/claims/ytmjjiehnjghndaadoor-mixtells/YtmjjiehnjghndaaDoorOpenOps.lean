/-
  PROVED HERE: how a list of ops among the arguments of the laws reads, out of its data.
  Conditions: none of this text's own.
-/
import Derived.Test.YtmjjiehnjghndaaDoorChecked
import Derived.Test.YtmjjiehnjghndaaDoorMgah
import Derived.ProofKit
import Derived.OpenShut
import Derived.ChangeSame
import Derived.ChangeVars
import Derived.JoinedOf
import Derived.LaidLaws
import Derived.LaidHandle
import Derived.Stop.Joined
import Derived.Deep.Slices
import Derived.Deep.Strs
import Derived.Lib.SmallJoins
import Derived.SizedLaws
namespace Go.Proofs.YtmjjiehnjghndaaDoor
open Go.ChangeShapes Go.WideShapes Go.ChangeAt Go.RowKit

theorem cellsOp : Tryd.prog.cellsOf 57 = 3 := by kernel_rfl
theorem cellsInt : Tryd.prog.cellsOf 3 = 1 := by kernel_rfl

theorem three_of {α : Type} {l : List α} (h : l.length = 3) : ∃ a b c, l = [a, b, c] := by
  match l, h with
  | [a, b, c], _ => exact ⟨a, b, c, rfl⟩
/-- A list of ops, out of its reading. -/
theorem open_ops {H : Type} {enc : TypeId × Value → H} {w : World} {fuel : Nat} {a0 : Option Addr} {len cap : Nat} {x : DataW H × List MemPlace}
    (h : DataW.trod enc Tryd.prog w 0 (fun _ => true) true fuel 22 [.slice a0 len cap] = some x) :
    ∃ (l : List Op3) (b off : Nat), l.length = len ∧ (0 < len → a0 = some ⟨b, off, none⟩) ∧ (a0 = none → len = 0 ∧ cap = 0) ∧ OpsAt w b off l ∧ (0 < len → .cell b off ∈ x.2) ∧ len ≤ cap := by
  rcases Deep.open_slice Tryd.underlying22 h with ⟨hc, hx⟩ | ⟨a, len', cap', m, n, D, Pl, hc, _, hl, hm, hmm, hx, hall⟩
  · simp only [List.cons.injEq, and_true, Value.slice.injEq] at hc
    obtain ⟨rfl, rfl, rfl⟩ := hc
    exact ⟨[], 0, 0, rfl, fun h => absurd h (by omega), fun _ => ⟨rfl, rfl⟩, fun i hi => by simp at hi, fun h => absurd h (by omega), Nat.le_refl _⟩
  · simp only [List.cons.injEq, and_true, Value.slice.injEq] at hc
    obtain ⟨rfl, rfl, rfl⟩ := hc
    simp only [if_true] at hmm
    subst hmm
    rw [cellsOp] at hall
    have each : ∀ i, i < m → ∃ o : Op3, w.cell? (a.add (i * 3)) = some (.int .i64 o.1) ∧ w.cell? (a.add (i * 3 + 1)) = some (.int .i64 o.2.1) ∧ w.cell? (a.add (i * 3 + 2)) = some (.int .i64 o.2.2) := by
      intro i hi
      obtain ⟨cs', h1, h2⟩ := hall i hi
      obtain ⟨_, hlen, hcell⟩ := World.cells?_some h1
      obtain ⟨y0, y1, y2, k, _, _, g0, g1, g2⟩ := Deep.trod_struct3 Tryd.underlying57 h2
      obtain ⟨v0, v1, v2, rfl⟩ := three_of hlen
      simp [cellsInt] at g0 g1 g2
      obtain ⟨n0, q0, _, _⟩ := DataW.trod_int Tryd.underlying3 g0
      obtain ⟨n1, q1, _, _⟩ := DataW.trod_int Tryd.underlying3 g1
      obtain ⟨n2, q2, _, _⟩ := DataW.trod_int Tryd.underlying3 g2
      simp only [List.cons.injEq, and_true] at q0 q1 q2
      subst q0 q1 q2
      have e0 := hcell 0 (by omega)
      have e1 := hcell 1 (by omega)
      have e2 := hcell 2 (by omega)
      rw [Deep.add_add] at e0 e1 e2
      exact ⟨(n0, n1, n2), by simpa using e0, by simpa using e1, by simpa using e2⟩
    by_cases h0 : len = 0
    · subst h0
      exact ⟨[], 0, 0, rfl, fun h => absurd h (by omega), fun h => (by simp at h), fun i hi => (by simp at hi), fun h => absurd h (by omega), Nat.zero_le _⟩
    · obtain ⟨b, off, spot⟩ := a
      obtain ⟨o0, c0, _⟩ := each 0 (by omega)
      have hspot : spot = none := by simpa [Addr.add] using World.cell?_spot c0
      subst hspot
      obtain ⟨F, hF⟩ := Deep.choose_lt each
      refine ⟨(List.range len).map F, b, off, by simp, fun _ => rfl, fun h => (by cases h), fun i hi => ?_, fun _ => ?_, hl⟩
      · have hi' : i < len := by simpa using hi
        obtain ⟨e0, e1, e2⟩ := hF i (by omega)
        have hget : ((List.range len).map F).getD i (0, 0, 0) = F i := by simp [List.getD, hi']
        rw [hget]
        rw [Addr.add_lit] at e0 e1 e2
        exact ⟨e0, by rw [Nat.add_assoc]; exact e1, by rw [Nat.add_assoc]; exact e2⟩
      · rw [hx]
        refine List.mem_append_left _ ?_
        rw [cellsOp]
        exact MemPlace.mem_row.2 ⟨0, by omega, by simp⟩
end Go.Proofs.YtmjjiehnjghndaaDoor
