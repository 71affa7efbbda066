/-
  PROVED HERE: nothing yet of package mix: what its Count, Good and Nth are asked to answer, for the laws that call them.
  Conditions: none.
-/
import Derived.Test.YtmjjiehnjghndaaMixPlain
import Derived.Test.YtmjjiehnjghndaaMgaf
import Derived.Test.YtmjjiehnjghndaaMgag
import Derived.Deep.QuietTactic
import Derived.BigQuiet
import Derived.WalkSmall
import Derived.Test.YtmjjiehnjghndaaBack
namespace Go.Proofs.Ytmjjiehnjghndaa
open Go.RowKit

theorem hid_m {p : Prop} (h : p) : Hid p := h
def MCountC : Prop := ∀ (l : List Op3) (ad : Option Addr) (cap : Nat) (w : World), IsOps w (.slice ad l.length cap) l → l.length ≤ cap → Calls Try.prog 5 #[.slice ad l.length cap] w fun e w' => e = .returned (.tuple #[.int .i64 (mixM l).length, errV (mixE l)]) ∧ Below w.heap.size w w'
def MGoodC : Prop := ∀ (l : List Op3) (ad : Option Addr) (cap : Nat) (w : World), IsOps w (.slice ad l.length cap) l → l.length ≤ cap → Calls Try.prog 6 #[.slice ad l.length cap] w fun e w' => e = .returned (.tuple #[.int .i64 (goodN l), errV (mixE l)]) ∧ Below w.heap.size w w'
def MNthC : Prop := ∀ (l : List Op3) (ad : Option Addr) (cap : Nat) (k : Int) (w : World), IsOps w (.slice ad l.length cap) l → l.length ≤ cap → Calls Try.prog 7 #[.slice ad l.length cap, .int .i64 k] w fun e w' => ∃ v', e = .returned (.tuple #[v', errV (nthE l k)]) ∧ IsOps w' v' (nthL l k) ∧ Below w.heap.size w w'
end Go.Proofs.Ytmjjiehnjghndaa
