/-
  PROVED HERE: nothing yet: what slices.DeleteFunc is asked at a row of whole numbers, for any closure.
  Conditions: none.
-/
import Derived.Test.YtccjognnehoodahMgad
import Derived.Shelf.GgClosure.Gives
namespace Go.Proofs.Ytccjognnehoodah
open Go.RowKit

/-- What slices.DeleteFunc is asked at a row of numbers of one's own. -/
def DelC : Prop := ∀ (ds : List Int) (p : Int → Bool) (N : Nat) (C : Array Value) (v : Value) (base n : Nat) (w : World), ds.length = n → ds.length ≤ 1000 → w.ownsRow base 3 1 v n (ds.map (Value.int .i64)) →
  (∀ (args : Array Value) (W : World), (callFunc N args).run Try.prog W = .ok (.enter N args) W) →
  (∀ W x, w.grownBy W v.ownBlock → Calls Try.prog N (#[.int .i64 x] ++ C) W fun e w' => e = .returned (.bool (p x)) ∧ ∃ q, w' = W.drewN q) →
  Calls Try.prog 26 #[v, .func (.func N) #[] C] w fun e w' => ∃ v', e = .returned v' ∧ IsInts w' v' (ds.filter fun x => !p x) ∧ w.grownBy w' v.ownBlock
end Go.Proofs.Ytccjognnehoodah
