/-
  PROVED HERE: lanelaw2.tells says yes of an outcome and an error that are what chapters 11 to 14, as functions on lists, tell, over whatever keeps RefC and RefOutC. Old memory stays as it was.
  Conditions: RefC, RefOutC; the variable errors.errorType holds the handle of the type error.
  PROVED HERE: laneref2.AtOnce answers as the plain onceK says. Old memory stays as it was.
  Conditions: none.
-/
import Derived.Test.YtccjognnehoodagMgay
import Derived.Test.YtccjognnehoodagMgaw
import Derived.Test.YtccjognnehoodagMgbb
import Derived.Test.YtccjognnehoodagMgbc
import Derived.Test.YtccjognnehoodagMgbd
import Derived.BigQuiet
namespace Go.Proofs.Ytccjognnehoodag
open Go.RowKit

theorem hid_k {p : Prop} (h : p) : Hid p := h
/-- An outcome in a block of its own. -/
def OutBx (w : World) (P : Nat) (a1 a2 a3 : Value) : Prop := w.cell? ⟨P, 0, none⟩ = some a1 ∧ w.cell? ⟨P, 1, none⟩ = some a2 ∧ w.cell? ⟨P, 2, none⟩ = some a3
theorem OutBx.below {w w1 : World} {P : Nat} {a1 a2 a3 : Value} (h : OutBx w P a1 a2 a3) (hb : Below w.heap.size w w1) : OutBx w1 P a1 a2 a3 := by
  have hl := World.block_lt_of_cell? w _ h.1
  exact ⟨(hb.cell (p := ⟨P, 0, none⟩) hl).trans h.1, (hb.cell (p := ⟨P, 1, none⟩) hl).trans h.2.1, (hb.cell (p := ⟨P, 2, none⟩) hl).trans h.2.2⟩
theorem IsInts.beside {w w1 : World} {v : Value} {l : List Int} {X : Nat} (h : IsInts w v l) (hX : ∀ q n, w.cell? ⟨X, q, none⟩ ≠ some (.int .i64 n)) (ht : Turns (fun j => j = X) w w1) : IsInts w1 v l := by
  obtain ⟨ad, b, off, cap, hv, ha, hn, hbB, hc⟩ := h
  refine ⟨ad, b, off, cap, hv, ha, hn, hbB.imp (fun h => Nat.lt_of_lt_of_le h ht.size) id, fun i hi => ?_⟩
  have h1 := hc i hi
  have hne : ¬ b = X := fun e => hX _ _ (e ▸ h1)
  exact (ht.cell (p := ⟨b, off + i, none⟩) (World.block_lt_of_cell? w _ h1) hne).trans h1
theorem IsOps.beside {w w1 : World} {v : Value} {l : List Op3} {X : Nat} (h : IsOps w v l) (hX : ∀ q n, w.cell? ⟨X, q, none⟩ ≠ some (.int .i64 n)) (ht : Turns (fun j => j = X) w w1) : IsOps w1 v l := by
  obtain ⟨ad, b, off, cap, hv, ha, hn, hbB, hc⟩ := h
  refine ⟨ad, b, off, cap, hv, ha, hn, hbB.imp (fun h => Nat.lt_of_lt_of_le h ht.size) id, fun i hi => ?_⟩
  obtain ⟨h0, h1, h2⟩ := hc i hi
  have hne : ¬ b = X := fun e => hX _ _ (e ▸ h0)
  exact ⟨(ht.cell (p := ⟨b, off + i * 3, none⟩) (World.block_lt_of_cell? w _ h0) hne).trans h0, (ht.cell (p := ⟨b, off + i * 3 + 1, none⟩) (World.block_lt_of_cell? w _ h1) hne).trans h1, (ht.cell (p := ⟨b, off + i * 3 + 2, none⟩) (World.block_lt_of_cell? w _ h2) hne).trans h2⟩
end Go.Proofs.Ytccjognnehoodag

namespace Go.Proofs.Ytccjognnehoodag
open Go.RowKit

end Go.Proofs.Ytccjognnehoodag
