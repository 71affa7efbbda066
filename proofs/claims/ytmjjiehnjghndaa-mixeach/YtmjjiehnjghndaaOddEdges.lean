/-
  PROVED HERE: plain facts on lists, with no word of the program: edges put in one by one, sorted and each once, are the same list as the possible edges, in order, of which only those are kept that are there.
  Conditions: none.
  (Of these, what the claim wants: the rest was left out.)
-/
import Derived.Test.YtmjjiehnjghndaaMgac
import Derived.Test.YtmjjiehnjghndaaBack
namespace Go.Proofs.Ytmjjiehnjghndaa

/-- The deals of a pair of places. -/
def edgeOf (d : List Op3) (p : Edge2) : Edge2 := ((opAt d p.1.toNat).1, (opAt d p.2.toNat).1)
/-- All edges that may be, in order. -/
def allE : List Edge2 := (List.range 36).map fun n => (((n / 6 + 1 : Nat) : Int), ((n % 6 + 1 : Nat) : Int))
def leadsB (d : List Op3) (e : Edge2) : Bool := (pairsL d).any fun p => edgeOf d p == e
def edgesTo (d : List Op3) (n : Nat) : List Edge2 := (allE.take n).filter (leadsB d)
theorem allE_take (n : Nat) (h : n < 36) : allE.take (n + 1) = allE.take n ++ [(((n / 6 + 1 : Nat) : Int), ((n % 6 + 1 : Nat) : Int))] := by
  have hl : n < allE.length := by simpa [allE] using h
  rw [List.take_succ_eq_append_getElem hl]
  simp [allE]
theorem edgesTo_hit {d : List Op3} {i j : Nat} (hi : i < 6) (hj : j < 6) (h : leadsB d (((i + 1 : Nat) : Int), ((j + 1 : Nat) : Int)) = true) : edgesTo d (6 * i + (j + 1)) = edgesTo d (6 * i + j) ++ [(((i + 1 : Nat) : Int), ((j + 1 : Nat) : Int))] := by
  unfold edgesTo
  rw [← Nat.add_assoc, allE_take _ (by omega), show (6 * i + j) / 6 = i by omega, show (6 * i + j) % 6 = j by omega, List.filter_append]
  simp only [List.filter_cons, h, if_true, List.filter_nil]
theorem edgesTo_miss {d : List Op3} {i j : Nat} (hi : i < 6) (hj : j < 6) (h : leadsB d (((i + 1 : Nat) : Int), ((j + 1 : Nat) : Int)) = false) : edgesTo d (6 * i + (j + 1)) = edgesTo d (6 * i + j) := by
  unfold edgesTo
  rw [← Nat.add_assoc, allE_take _ (by omega), show (6 * i + j) / 6 = i by omega, show (6 * i + j) % 6 = j by omega, List.filter_append]
  rw [List.filter_cons, h]
  simp
theorem edgesTo_len (d : List Op3) (n : Nat) : (edgesTo d n).length ≤ 36 := by
  unfold edgesTo
  have h1 := List.length_filter_le (leadsB d) (allE.take n)
  have h2 := List.length_take_le' n allE
  have h3 : allE.length = 36 := by simp [allE]
  omega
end Go.Proofs.Ytmjjiehnjghndaa
