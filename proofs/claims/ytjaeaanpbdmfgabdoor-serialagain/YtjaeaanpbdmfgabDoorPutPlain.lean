/-
  PROVED HERE: plain facts, with no word of the program: a number put into a list that rises, once; whether a number is in a list.
  Conditions: none.
-/
import Derived.WalkKit
namespace Go.Proofs.YtjaeaanpbdmfgabDoor

def putL : List Int → Int → List Int
  | [], n => [n]
  | x :: r, n => if x = n then x :: r else if n < x then n :: x :: r else x :: putL r n
theorem putL_len (l : List Int) (n : Int) : (putL l n).length ≤ l.length + 1 := by
  induction l with
  | nil => simp [putL]
  | cons x r ih =>
    unfold putL
    split
    · simp
    · split <;> simp <;> omega
/-- What is still to come. -/
def putR (done : Bool) (l : List Int) (n : Int) : List Int := if done then l else putL l n
/-- Is a number in a list? -/
def inB (l : List Int) (n : Int) : Bool := l.contains n
theorem inB_iff {l : List Int} {n : Int} : inB l n = true ↔ n ∈ l := by simp [inB]
theorem inB_not {l : List Int} {n : Int} : inB l n = false ↔ n ∉ l := by simp [inB]
end Go.Proofs.YtjaeaanpbdmfgabDoor
