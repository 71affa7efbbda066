/-
  PROVED HERE: plain facts, with no word of the program: deals that keep locks till they end, as chapter 9 has them (told: what is done; who is aborted), as a function on lists; how far its lists can grow, and who has no lock.
  Conditions: none.
  (Of these, what the claim wants: the rest was left out.)
-/
import Derived.Test.YtaodbljpihcjnaaDoorLocksPlain
import Derived.Test.YtaodbljpihcjnaaDoorGraphEitherPlain
import Derived.Test.YtaodbljpihcjnaaDoorGraphBools
import Derived.Laws.Rows
import Derived.Laws.CopyOwn
namespace Go.Proofs.YtaodbljpihcjnaaDoor

/-- How things stand while deals ask. -/
structure Runr where
  tab : Tab2
  waits : Int → Bool
  op : Int → Op3
  behind : Int → List Op3
  out : Int → Bool
  told : List Op3
  vict : List Int
def setF {α : Type} (f : Int → α) (t : Int) (x : α) : Int → α := fun j => if j = t then x else f j
theorem setF_same {α : Type} (f : Int → α) (t : Int) (x : α) : setF f t x t = x := if_pos rfl
theorem setF_other {α : Type} (f : Int → α) {t d : Int} (x : α) (h : d ≠ t) : setF f t x d = f d := if_neg h
/-- How many deals are so. -/
def cnt6 (f : Int → Bool) : Nat := (f 1).toNat + (f 2).toNat + (f 3).toNat + (f 4).toNat + (f 5).toNat + (f 6).toNat
def sum6 (f : Int → List Op3) : Nat := (f 1).length + (f 2).length + (f 3).length + (f 4).length + (f 5).length + (f 6).length
theorem six {d : Int} (h1 : 1 ≤ d) (h6 : d ≤ 6) : d = 1 ∨ d = 2 ∨ d = 3 ∨ d = 4 ∨ d = 5 ∨ d = 6 := by omega
/-- What all of it comes to: what is told, what stands behind, who waits, who is not aborted. -/
def pot (r : Runr) : Nat := r.told.length + sum6 r.behind + cnt6 r.waits + cnt6 fun d => !r.out d
/-- What is always so. -/
structure Good (r : Runr) : Prop where
  t1 : ∀ x ∈ r.tab.1, r.out x.1 = false ∧ 1 ≤ x.1 ∧ x.1 ≤ 6
  t2 : ∀ x ∈ r.tab.2, r.out x.1 = false ∧ 1 ≤ x.1 ∧ x.1 ≤ 6
  gone : ∀ d, r.out d = true → r.behind d = []
  ops : ∀ d, ∀ o ∈ r.behind d, o.1 = d ∧ isOpB o = true
  size : r.tab.1.length + r.tab.2.length ≤ r.told.length + cnt6 r.waits
  vict : r.vict.length + (cnt6 fun d => !r.out d) ≤ 6
  wait : ∀ d, r.waits d = true → 1 ≤ d ∧ d ≤ 6
/-- From one to the other. -/
structure Step (r r' : Runr) (c : Nat) : Prop where
  good : Good r'
  less : ∀ d, (r'.behind d).length ≤ (r.behind d).length
  outs : ∀ d, r.out d = true → r'.out d = true
  pots : pot r' ≤ pot r + c
theorem Step.refl {r : Runr} (h : Good r) : Step r r 0 := ⟨h, fun _ => Nat.le_refl _, fun _ h => h, Nat.le_refl _⟩
theorem Step.trans {r s u : Runr} {a b c : Nat} (h : Step r s a) (k : Step s u b) (hc : a + b ≤ c) : Step r u c :=
  ⟨k.good, fun d => Nat.le_trans (k.less d) (h.less d), fun d hd => k.outs d (h.outs d hd), by have := h.pots; have := k.pots; omega⟩
theorem Step.mono {r s : Runr} {a b : Nat} (h : Step r s a) (hab : a ≤ b) : Step r s b := ⟨h.good, h.less, h.outs, by have := h.pots; omega⟩
end Go.Proofs.YtaodbljpihcjnaaDoor
