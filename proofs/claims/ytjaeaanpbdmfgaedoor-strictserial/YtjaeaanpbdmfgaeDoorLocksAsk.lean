/-
  PROVED HERE: nothing yet of package locks: what its table is asked to answer (LocksC), for the laws that call it: over whatever lies in memory for a table.
  Conditions: none.
-/
import Derived.Test.YtjaeaanpbdmfgaeDoorMgat
import Derived.Test.YtjaeaanpbdmfgaeDoorMgal
namespace Go.Proofs.YtjaeaanpbdmfgaeDoor
open Go.RowKit

/-- What Free answers, and what it leaves, at any number. -/
def freeU (s : Tab2) (t : Int) : (List Op3 × Int) × Tab2 := if 1 ≤ t ∧ t ≤ 6 then (((freeT s t).2, 0), (freeT s t).1) else (([], 1), s)
/-- What For answers at any lock. -/
def forU (s : Tab2) (x : Op3) : List Int × Int := if isLock x = true then (forT s x, 0) else ([], 1)
abbrev lockV (x : Op3) : Value := .agg #[.int .i64 x.1, .int .i64 x.2.1, .int .i64 x.2.2]
/-- What package locks is asked to keep by one who only asks: PT w T F s says that at block T lies the table s, in the blocks of F. -/
structure LocksQ (PT : World → Nat → (Nat → Prop) → Tab2 → Prop) : Prop where
  stays : ∀ {w w' : World} {T : Nat} {F : Nat → Prop} {s : Tab2} (G : Nat → Prop), PT w T F s → Turns G w w' → (∀ k, F k → ¬ G k) → PT w' T F s
  lt : ∀ {w : World} {T : Nat} {F : Nat → Prop} {s : Tab2}, PT w T F s → ∀ k, F k → k < w.heap.size
  new : ∀ w : World, Calls Tryd.prog 6 #[] w fun e w' => ∃ T F, e = .returned (.pointer (some ⟨T, 0, none⟩)) ∧ PT w' T F ([], []) ∧ Below w.heap.size w w' ∧ ∀ k, F k → w.heap.size ≤ k
  ask : ∀ (w : World) (T : Nat) (F : Nat → Prop) (s : Tab2) (x : Op3), PT w T F s → s.1.length ≤ 400 → s.2.length ≤ 400 → Calls Tryd.prog 13 #[.pointer (some ⟨T, 0, none⟩), lockV x] w fun e w' => e = .returned (.tuple #[.bool (askT s x).1.1, errV (askT s x).1.2]) ∧ ∃ F', PT w' T F' (askT s x).2 ∧ Turns F w w' ∧ ∀ k, F' k → F k ∨ w.heap.size ≤ k
  whom : ∀ (w : World) (T : Nat) (F : Nat → Prop) (s : Tab2) (x : Op3), PT w T F s → s.1.length ≤ 400 → s.2.length ≤ 400 → Calls Tryd.prog 16 #[.pointer (some ⟨T, 0, none⟩), lockV x] w fun e w' => ∃ v', e = .returned (.tuple #[v', errV (forU s x).2]) ∧ IsInts w' v' (forU s x).1 ∧ Below w.heap.size w w'
theorem LocksQ.below {PT : World → Nat → (Nat → Prop) → Tab2 → Prop} (h : LocksQ PT) {w w' : World} {T : Nat} {F : Nat → Prop} {s : Tab2} (hp : PT w T F s) (hb : Below w.heap.size w w') : PT w' T F s := h.stays (fun _ => False) hp (Turns.of_below hb) fun _ _ hf => hf
/-- What package locks is asked to keep: PT w T F s says that at block T lies the table s, in the blocks of F. -/
structure LocksC (PT : World → Nat → (Nat → Prop) → Tab2 → Prop) : Prop where
  stays : ∀ {w w' : World} {T : Nat} {F : Nat → Prop} {s : Tab2} (G : Nat → Prop), PT w T F s → Turns G w w' → (∀ k, F k → ¬ G k) → PT w' T F s
  lt : ∀ {w : World} {T : Nat} {F : Nat → Prop} {s : Tab2}, PT w T F s → ∀ k, F k → k < w.heap.size
  new : ∀ w : World, Calls Tryd.prog 6 #[] w fun e w' => ∃ T F, e = .returned (.pointer (some ⟨T, 0, none⟩)) ∧ PT w' T F ([], []) ∧ Below w.heap.size w w' ∧ ∀ k, F k → w.heap.size ≤ k
  ask : ∀ (w : World) (T : Nat) (F : Nat → Prop) (s : Tab2) (x : Op3), PT w T F s → s.1.length ≤ 400 → s.2.length ≤ 400 → Calls Tryd.prog 13 #[.pointer (some ⟨T, 0, none⟩), lockV x] w fun e w' => e = .returned (.tuple #[.bool (askT s x).1.1, errV (askT s x).1.2]) ∧ ∃ F', PT w' T F' (askT s x).2 ∧ Turns F w w' ∧ ∀ k, F' k → F k ∨ w.heap.size ≤ k
  free : ∀ (w : World) (T : Nat) (F : Nat → Prop) (s : Tab2) (t : Int), PT w T F s → s.1.length ≤ 400 → s.2.length ≤ 400 → Calls Tryd.prog 9 #[.pointer (some ⟨T, 0, none⟩), .int .i64 t] w fun e w' => ∃ v' F', e = .returned (.tuple #[v', errV (freeU s t).1.2]) ∧ IsOps w' v' (freeU s t).1.1 ∧ PT w' T F' (freeU s t).2 ∧ Turns F w w' ∧ ∀ k, F' k → F k ∨ w.heap.size ≤ k
  whom : ∀ (w : World) (T : Nat) (F : Nat → Prop) (s : Tab2) (x : Op3), PT w T F s → s.1.length ≤ 400 → s.2.length ≤ 400 → Calls Tryd.prog 16 #[.pointer (some ⟨T, 0, none⟩), lockV x] w fun e w' => ∃ v', e = .returned (.tuple #[v', errV (forU s x).2]) ∧ IsInts w' v' (forU s x).1 ∧ Below w.heap.size w w'
  held : ∀ (w : World) (T : Nat) (F : Nat → Prop) (s : Tab2), PT w T F s → s.1.length ≤ 400 → s.2.length ≤ 400 → Calls Tryd.prog 18 #[.pointer (some ⟨T, 0, none⟩)] w fun e w' => ∃ v', e = .returned v' ∧ IsOps w' v' s.1 ∧ Below w.heap.size w w'
  waits : ∀ (w : World) (T : Nat) (F : Nat → Prop) (s : Tab2), PT w T F s → s.1.length ≤ 400 → s.2.length ≤ 400 → Calls Tryd.prog 19 #[.pointer (some ⟨T, 0, none⟩)] w fun e w' => ∃ v', e = .returned v' ∧ IsOps w' v' s.2 ∧ Below w.heap.size w w'
theorem LocksC.below {PT : World → Nat → (Nat → Prop) → Tab2 → Prop} (h : LocksC PT) {w w' : World} {T : Nat} {F : Nat → Prop} {s : Tab2} (hp : PT w T F s) (hb : Below w.heap.size w w') : PT w' T F s := h.stays (fun _ => False) hp (Turns.of_below hb) fun _ _ hf => hf
end Go.Proofs.YtjaeaanpbdmfgaeDoor
