/-
  PROVED HERE: plain facts on lists of ops, with no word of the program: which op of a history is the first that is wrong, and what becomes of that when one op is added.
  Conditions: none.
  (Of these, what the claim wants: the rest was left out.)
-/
import Derived.WalkKit
namespace Go.Proofs.YtaodbljpihcjnaaDoor

/-- An op: its deal, what it does, its item. -/
abbrev Op3 := Int × Int × Int
def endsB (a : Int) : Bool := a == 3 || a == 4
def isOpB (o : Op3) : Bool := !(decide (o.1 < 1) || decide (6 < o.1) || decide (o.2.1 < 1) || decide (4 < o.2.1)) && (if endsB o.2.1 then o.2.2 == 0 else decide (1 ≤ o.2.2) && decide (o.2.2 ≤ 6))
/-- Has a deal ended among these ops? -/
def endedIn (l : List Op3) (t : Int) : Bool := l.any fun o => o.1 == t && endsB o.2.1
end Go.Proofs.YtaodbljpihcjnaaDoor
