/-
  PROVED HERE: plain facts, with no word of the program: a chain of two to six deals has that order, and no way leads back; closed it has a ring of all, and no order.
  Conditions: none.
-/
import Derived.Test.YtjaeaanpbdmfgabDoorGraphEitherPlain
namespace Go.Proofs.YtjaeaanpbdmfgabDoor

def chainK (k : Nat) : List Edge2 := (List.range k).map fun (i : Nat) => ((i : Int) + 1, (i : Int) + 2)
theorem chainK_length (k : Nat) : (chainK k).length = k := by simp [chainK]
theorem chainK_succ (k : Nat) : chainK (k + 1) = chainK k ++ [((k : Int) + 1, (k : Int) + 2)] := by simp [chainK, List.range_succ]
def riseI (m : Nat) : List Int := (List.range m).map fun (i : Nat) => (i : Int) + 1
def riseN (m : Nat) : List Nat := (List.range m).map fun (i : Nat) => i + 1
theorem six {m : Nat} (h2 : 2 ≤ m) (h6 : m ≤ 6) : m = 2 ∨ m = 3 ∨ m = 4 ∨ m = 5 ∨ m = 6 := by omega
theorem chain_gchk {m : Nat} (h2 : 2 ≤ m) (h6 : m ≤ 6) : gchk (chainK (m - 1)) = 0 := by
  rcases six h2 h6 with rfl | rfl | rfl | rfl | rfl <;> decide
theorem chain_order {m : Nat} (h2 : 2 ≤ m) (h6 : m ≤ 6) : orderL (chainK (m - 1)) = some (riseI m) := by
  rcases six h2 h6 with rfl | rfl | rfl | rfl | rfl <;> decide +kernel
def closedK (m : Nat) : List Edge2 := chainK (m - 1) ++ [((m : Int), 1)]
theorem closed_gchk {m : Nat} (h2 : 2 ≤ m) (h6 : m ≤ 6) : gchk (closedK m) = 0 := by
  rcases six h2 h6 with rfl | rfl | rfl | rfl | rfl <;> decide
theorem closed_order {m : Nat} (h2 : 2 ≤ m) (h6 : m ≤ 6) : orderL (closedK m) = none := by
  rcases six h2 h6 with rfl | rfl | rfl | rfl | rfl <;> decide +kernel
theorem closed_ring {m : Nat} (h2 : 2 ≤ m) (h6 : m ≤ 6) : ringL (closedK m) = some (riseN m) := by
  rcases six h2 h6 with rfl | rfl | rfl | rfl | rfl <;> decide +kernel
theorem chain_step {k x : Nat} (h1 : 1 ≤ x) (hx : x ≤ k) : stepsS (chainK k) x (x + 1) = true := by
  refine steps_mem (List.mem_map.2 ⟨x - 1, List.mem_range.2 (by omega), ?_⟩)
  rw [Prod.mk.injEq]
  omega
theorem chain_up {k : Nat} : ∀ d x : Nat, 1 ≤ x → x + d ≤ k → Way (stepsS (chainK k)) x (x + d + 1) := by
  intro d
  induction d with
  | zero => intro x h1 h2; exact .one (chain_step h1 h2)
  | succ d ih =>
    intro x h1 h2
    have := ih (x + 1) (by omega) (by omega)
    rw [show x + 1 + d + 1 = x + (d + 1) + 1 by omega] at this
    exact .more (chain_step h1 (by omega)) this
theorem chain_way {m : Nat} (h2 : 2 ≤ m) : Way (stepsS (chainK (m - 1))) 1 m := by
  have := chain_up (k := m - 1) (m - 2) 1 (by omega) (by omega)
  rwa [show 1 + (m - 2) + 1 = m by omega] at this
theorem chain_back {m : Nat} (h2 : 2 ≤ m) : ¬ Way (stepsS (chainK (m - 1))) m 1 := by
  intro h
  have hlt : m < 1 := way_ind (R := fun x y => x < y) (fun x y hxy => by
    obtain ⟨i, _, hi⟩ := List.mem_map.1 (mem_steps hxy)
    rw [Prod.mk.injEq] at hi
    omega) (fun x y z hxy _ ih => by
    obtain ⟨i, _, hi⟩ := List.mem_map.1 (mem_steps hxy)
    rw [Prod.mk.injEq] at hi
    omega) h
  omega
end Go.Proofs.YtjaeaanpbdmfgabDoor
