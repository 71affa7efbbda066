/-
  PROVED HERE: plain facts, with no word of the program: what a list of ops comes to when it is played, and what its Reads read; who looks the same comes to the same.
  Conditions: none.
  (Of these, what the claim wants: the rest was left out.)
-/
import Derived.Test.YtggieffpehbfaaaDoorWiderPlain
namespace Go.Proofs.YtggieffpehbfaaaDoor

/-- What the items are, and what each deal has read, behind the first k ops. -/
def stTo (d : List Op3) : Nat → (Int → Int) × (Int → Int)
  | 0 => (fun _ => 0, fun _ => 0)
  | k + 1 =>
    (fun x => if (opAt d k).2.1 = 2 ∧ (opAt d k).2.2 = x then (7 * (opAt d k).1 + ((nthAt d k : Int) + 1) + (stTo d k).2 (opAt d k).1) % 1000003 else (stTo d k).1 x,
     fun t => if (opAt d k).2.1 = 1 ∧ (opAt d k).1 = t then (stTo d k).2 t + (stTo d k).1 (opAt d k).2.2 else (stTo d k).2 t)
def valTo (d : List Op3) (k : Nat) (x : Int) : Int := (stTo d k).1 x
def sumTo (d : List Op3) (k : Nat) (t : Int) : Int := (stTo d k).2 t
/-- What an op writes, and what one reads. -/
def wrote (d : List Op3) (k : Nat) : Int := (7 * (opAt d k).1 + ((nthAt d k : Int) + 1) + sumTo d k (opAt d k).1) % 1000003
def readV (d : List Op3) (k : Nat) : Int := valTo d k (opAt d k).2.2
theorem sumTo_zero (d : List Op3) (t : Int) : sumTo d 0 t = 0 := rfl
theorem valTo_hit {d : List Op3} {k : Nat} {x : Int} (h1 : (opAt d k).2.1 = 2) (h2 : (opAt d k).2.2 = x) : valTo d (k + 1) x = wrote d k := if_pos ⟨h1, h2⟩
theorem valTo_pass {d : List Op3} {k : Nat} {x : Int} (h : ¬ ((opAt d k).2.1 = 2 ∧ (opAt d k).2.2 = x)) : valTo d (k + 1) x = valTo d k x := if_neg h
theorem sumTo_hit {d : List Op3} {k : Nat} {t : Int} (h1 : (opAt d k).2.1 = 1) (h2 : (opAt d k).1 = t) : sumTo d (k + 1) t = sumTo d k t + readV d k := if_pos ⟨h1, h2⟩
theorem sumTo_pass {d : List Op3} {k : Nat} {t : Int} (h : ¬ ((opAt d k).2.1 = 1 ∧ (opAt d k).1 = t)) : sumTo d (k + 1) t = sumTo d k t := if_neg h
theorem wrote_bound (d : List Op3) (k : Nat) : 0 ≤ wrote d k ∧ wrote d k < 1000003 := ⟨Int.emod_nonneg _ (by decide), Int.emod_lt_of_pos _ (by decide)⟩
theorem valTo_wr (d : List Op3) (x : Int) : ∀ k, valTo d k x = match wrTo d x k with | none => 0 | some j => wrote d j := by
  intro k
  induction k with
  | zero => rfl
  | succ k ih =>
    by_cases h : (opAt d k).2.1 = 2 ∧ (opAt d k).2.2 = x
    · rw [valTo_hit h.1 h.2, wrTo_hit h.1 h.2]
    · rw [valTo_pass h, wrTo_pass h, ih]
theorem valTo_none {d : List Op3} {x : Int} {k : Nat} (h : wrTo d x k = none) : valTo d k x = 0 := by rw [valTo_wr, h]
theorem valTo_some {d : List Op3} {x : Int} {k j : Nat} (h : wrTo d x k = some j) : valTo d k x = wrote d j := by rw [valTo_wr, h]
theorem valTo_bound (d : List Op3) (k : Nat) (x : Int) : 0 ≤ valTo d k x ∧ valTo d k x < 1000003 := by
  cases h : wrTo d x k with
  | none => rw [valTo_none h]; decide
  | some j => rw [valTo_some h]; exact wrote_bound d j
theorem sumTo_bound (d : List Op3) (t : Int) : ∀ k : Nat, 0 ≤ sumTo d k t ∧ sumTo d k t ≤ (k : Int) * 1000003 := by
  intro k
  induction k with
  | zero => rw [sumTo_zero]; omega
  | succ k ih =>
    by_cases h : (opAt d k).2.1 = 1 ∧ (opAt d k).1 = t
    · rw [sumTo_hit h.1 h.2]
      have := valTo_bound d k (opAt d k).2.2
      unfold readV
      omega
    · rw [sumTo_pass h]
      omega
theorem ofL_take_succ {d : List Op3} {k : Nat} (hk : k < d.length) (t : Int) : (ofL (d.take (k + 1)) t).length = (ofL (d.take k) t).length + if (opAt d k).1 = t then 1 else 0 := by
  rw [List.take_succ_eq_append_getElem hk, ofL_append, ofL_cons, List.length_append]
  have : d[k] = opAt d k := by simp [opAt, List.getD, List.getElem?_eq_getElem hk]
  rw [this]
  split <;> simp [ofL]
/-- What the items are at last. -/
def valsL (d : List Op3) : List Int := (List.range 6).map fun (j : Nat) => valTo d d.length ((j : Int) + 1)
/-- What each Read reads, in order, among the first k. -/
def seenTo (d : List Op3) : Nat → List Int
  | 0 => []
  | k + 1 => if (opAt d k).2.1 = 1 then seenTo d k ++ [readV d k] else seenTo d k
theorem seenTo_len (d : List Op3) (k : Nat) : (seenTo d k).length ≤ k := by
  induction k with
  | zero => exact Nat.le_refl _
  | succ k ih =>
    rw [seenTo]
    split
    · simp; omega
    · omega
end Go.Proofs.YtggieffpehbfaaaDoor
