/-
  PROVED HERE: nothing yet of package mix: what its Count, Good and Nth are asked to answer, for the laws that call them.
  Conditions: none.
  (Of these, what the claim wants: the rest was left out.)
-/
import Derived.Test.YtmjjiehnjghndaaMixPlain
import Derived.Test.YtmjjiehnjghndaaOps
import Derived.Test.YtmjjiehnjghndaaDone
import Derived.Deep.QuietTactic
import Derived.BigQuiet
import Derived.WalkSmall
import Derived.Test.YtmjjiehnjghndaaCheck
import Derived.Test.YtmjjiehnjghndaaBack
namespace Go.Proofs.Ytmjjiehnjghndaa
open Go.RowKit

theorem hid_m {p : Prop} (h : p) : Hid p := h
def MCountC : Prop := ∀ (l : List Op3) (ad : Option Addr) (cap : Nat) (w : World), IsOps w (.slice ad l.length cap) l → l.length ≤ cap → Calls Try.prog 5 #[.slice ad l.length cap] w fun e w' => e = .returned (.tuple #[.int .i64 (mixM l).length, errV (mixE l)]) ∧ Below w.heap.size w w'
def MGoodC : Prop := ∀ (l : List Op3) (ad : Option Addr) (cap : Nat) (w : World), IsOps w (.slice ad l.length cap) l → l.length ≤ cap → Calls Try.prog 6 #[.slice ad l.length cap] w fun e w' => e = .returned (.tuple #[.int .i64 (goodN l), errV (mixE l)]) ∧ Below w.heap.size w w'
end Go.Proofs.Ytmjjiehnjghndaa
