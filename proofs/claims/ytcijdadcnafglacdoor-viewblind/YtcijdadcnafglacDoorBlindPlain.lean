/-
  PROVED HERE: plain facts, with no word of the program: two deals that write two items crosswise, and a third one that writes both behind them: such a list is right, all of it is done, by odds it goes around, and by view it has the order 1, 2, 3.
  Conditions: none.
-/
import Derived.Test.YtcijdadcnafglacDoorOrdPlain
import Derived.Test.YtcijdadcnafglacDoorViewPlain
import Derived.Test.YtcijdadcnafglacDoorAlongPlain
namespace Go.Proofs.YtcijdadcnafglacDoor

def blind6 (a b : Int) : List Op3 := [(1, 2, a), (2, 2, a), (2, 2, b), (1, 2, b), (3, 2, a), (3, 2, b)]
def blind3 : List Op3 := [(1, 3, 0), (2, 3, 0), (3, 3, 0)]
def blindL (a b : Int) : List Op3 := blind6 a b ++ blind3
def blindB (a b : Int) : Bool := (chk (blindL a b)).2 == 0 && doneL (blindL a b) == blindL a b && serOrd (blindL a b) == none && (tryO (dealsL (blindL a b)) (fun o => sightB (blindL a b) (alongL (blindL a b) o)) (dealsL (blindL a b)).length [] == some [1, 2, 3])
theorem blind_all : ((List.range 6).all fun i => (List.range 6).all fun j => i == j || blindB ((i : Int) + 1) ((j : Int) + 1)) = true := by decide +kernel
theorem blind_plain {a b : Int} (ha : 1 ≤ a ∧ a ≤ 6) (hb : 1 ≤ b ∧ b ≤ 6) (hne : a ≠ b) : (chk (blindL a b)).2 = 0 ∧ doneL (blindL a b) = blindL a b ∧ serOrd (blindL a b) = none ∧ tryO (dealsL (blindL a b)) (fun o => sightB (blindL a b) (alongL (blindL a b) o)) (dealsL (blindL a b)).length [] = some [1, 2, 3] := by
  have h := List.all_eq_true.1 (List.all_eq_true.1 blind_all (a.toNat - 1) (List.mem_range.2 (by omega))) (b.toNat - 1) (List.mem_range.2 (by omega))
  rw [show ((a.toNat - 1 : Nat) : Int) + 1 = a by omega, show ((b.toNat - 1 : Nat) : Int) + 1 = b by omega] at h
  rcases Bool.or_eq_true_iff.1 h with h | h
  · have : a.toNat - 1 = b.toNat - 1 := by simpa using h
    omega
  · simp only [blindB, Bool.and_eq_true, beq_iff_eq] at h
    exact ⟨h.1.1.1, h.1.1.2, h.1.2, h.2⟩
end Go.Proofs.YtcijdadcnafglacDoor
