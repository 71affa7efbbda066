/-
  PROVED HERE: how things stand behind some grips, as package tree keeps it in memory: a block with the tree, the map of who holds what, and two squares of bools; and what becomes of it when one of them is set, when memory is made, and when old memory stays.
  Conditions: none.
-/
import Derived.Test.YtmgadiopjofegaiDoorTStPlain
import Derived.Test.YtmgadiopjofegaiDoorTreeAsk
import Derived.Test.YtmgadiopjofegaiDoorMatT
import Derived.Test.YtmgadiopjofegaiDoorLaneMap
import Derived.Deep.MidRow
namespace Go.Proofs.YtmgadiopjofegaiDoor
open Go.RowKit

def sPart (vu : Value) (M : Nat) (H L : Step7) (k : Nat) : Value := if k = 0 then vu else if k = 1 then .map (some M) else if k < 51 then .bool (flatS H (k - 2)) else .bool (flatS L (k - 51))
def cells100 (vu : Value) (M : Nat) (H L : Step7) : Array Value := ((List.range 100).map (sPart vu M H L)).toArray
theorem cells100_size (vu : Value) (M : Nat) (H L : Step7) : (cells100 vu M H L).size = 100 := by simp [cells100]
theorem cells100_at (vu : Value) (M : Nat) (H L : Step7) (k : Nat) (h : k < 100) : (cells100 vu M H L)[k]? = some (sPart vu M H L k) := by simp [cells100, h]
theorem cells100_ext {vu : Value} {M : Nat} {H L H' L' : Step7} {u : Value} {p : Nat} (hp : p < 100) (hh : sPart vu M H' L' p = u) (he : ∀ k, k < 100 → k ≠ p → sPart vu M H' L' k = sPart vu M H L k) : (cells100 vu M H L).setIfInBounds p u = cells100 vu M H' L' := by
  refine Array.ext_getElem? fun j => ?_
  by_cases hj : j < 100
  · rw [cells100_at _ _ _ _ j hj, Array.getElem?_setIfInBounds, cells100_size, cells100_at _ _ _ _ j hj]
    by_cases e : p = j
    · subst e; rw [if_pos rfl, if_pos hp, hh]
    · rw [if_neg e, he j hj (fun h => e h.symm)]
  · rw [Array.getElem?_eq_none (by simp [cells100_size]; omega), Array.getElem?_eq_none (by simp [cells100_size]; omega)]
theorem cells100_had (vu : Value) (M : Nat) (H L : Step7) {t x : Nat} (ht : t < 7) (hx : x < 7) : (cells100 vu M H L).setIfInBounds (2 + t * 7 + x) (.bool true) = cells100 vu M (setM H t x) L := by
  refine cells100_ext (by omega) ?_ fun k hk hne => ?_
  · unfold sPart
    rw [if_neg (by omega), if_neg (by omega), if_pos (by omega), show 2 + t * 7 + x - 2 = t * 7 + x by omega, flat_two t x hx]
    unfold setM
    rw [if_pos ⟨rfl, rfl⟩]
  · unfold sPart
    by_cases h0 : k = 0
    · rw [if_pos h0, if_pos h0]
    · by_cases h1 : k = 1
      · rw [if_neg h0, if_neg h0, if_pos h1, if_pos h1]
      · by_cases h2 : k < 51
        · rw [if_neg h0, if_neg h0, if_neg h1, if_neg h1, if_pos h2, if_pos h2]
          unfold flatS setM
          rw [if_neg (by omega)]
        · rw [if_neg h0, if_neg h0, if_neg h1, if_neg h1, if_neg h2, if_neg h2]
theorem cells100_lead (vu : Value) (M : Nat) (H L : Step7) {t x : Nat} (ht : t < 7) (hx : x < 7) : (cells100 vu M H L).setIfInBounds (51 + t * 7 + x) (.bool true) = cells100 vu M H (setM L t x) := by
  refine cells100_ext (by omega) ?_ fun k hk hne => ?_
  · unfold sPart
    rw [if_neg (by omega), if_neg (by omega), if_neg (by omega), show 51 + t * 7 + x - 51 = t * 7 + x by omega, flat_two t x hx]
    unfold setM
    rw [if_pos ⟨rfl, rfl⟩]
  · unfold sPart
    by_cases h0 : k = 0
    · rw [if_pos h0, if_pos h0]
    · by_cases h1 : k = 1
      · rw [if_neg h0, if_neg h0, if_pos h1, if_pos h1]
      · by_cases h2 : k < 51
        · rw [if_neg h0, if_neg h0, if_neg h1, if_neg h1, if_pos h2, if_pos h2]
        · rw [if_neg h0, if_neg h0, if_neg h1, if_neg h1, if_neg h2, if_neg h2]
          unfold flatS setM
          rw [if_neg (by omega)]
/-- The block. -/
def StdAt (w : World) (B : Nat) (vu : Value) (M : Nat) (H L : Step7) : Prop := w.heap[B]? = some (.cells (cells100 vu M H L) 62 (0, 0))
section
variable {w w1 : World} {B M : Nat} {vu : Value} {H L : Step7}
theorem StdAt.lt (h : StdAt w B vu M H L) : B < w.heap.size := by
  have h' : w.heap[B]? = some _ := h
  exact (Array.getElem?_eq_some_iff.1 h').1
theorem StdAt.cell (h : StdAt w B vu M H L) {k : Nat} (hk : k < 100) : w.cell? ⟨B, k, none⟩ = some (sPart vu M H L k) := by
  rw [cell_of_row w B _ _ _ _ h, cells100_at _ _ _ _ k hk]
theorem StdAt.up (h : StdAt w B vu M H L) : w.cell? ⟨B, 0, none⟩ = some vu := by rw [h.cell (by omega)]; rfl
theorem StdAt.map (h : StdAt w B vu M H L) : w.cell? ⟨B, 1, none⟩ = some (.map (some M)) := by rw [h.cell (by omega)]; rfl
theorem StdAt.had (h : StdAt w B vu M H L) {t x : Nat} (ht : t < 7) (hx : x < 7) : w.cell? ⟨B, 2 + t * 7 + x, none⟩ = some (.bool (H t x)) := by
  rw [h.cell (by omega)]; unfold sPart; rw [if_neg (by omega), if_neg (by omega), if_pos (by omega), show 2 + t * 7 + x - 2 = t * 7 + x by omega, flat_two t x hx]
theorem StdAt.lead (h : StdAt w B vu M H L) {t x : Nat} (ht : t < 7) (hx : x < 7) : w.cell? ⟨B, 51 + t * 7 + x, none⟩ = some (.bool (L t x)) := by
  rw [h.cell (by omega)]; unfold sPart; rw [if_neg (by omega), if_neg (by omega), if_neg (by omega), show 51 + t * 7 + x - 51 = t * 7 + x by omega, flat_two t x hx]
theorem StdAt.thaw (h : StdAt w B vu M H L) (k : Nat) : w.frozen? ⟨B, k, none⟩ = false := by
  have h' : w.heap[B]? = some _ := h
  simp [World.frozen?, h']
theorem StdAt.same (h : StdAt w B vu M H L) (hb : w1.heap[B]? = w.heap[B]?) : StdAt w1 B vu M H L := hb.trans h
theorem StdAt.setHad (h : StdAt w B vu M H L) {t x : Nat} (ht : t < 7) (hx : x < 7) : StdAt (w.setCell ⟨B, 2 + t * 7 + x, none⟩ (.bool true)) B vu M (setM H t x) L := by
  have h' : w.heap[B]? = some (.cells (cells100 vu M H L) 62 (0, 0)) := h
  unfold StdAt World.setCell
  simp [Array.getElem?_modify, h', cells100_had vu M H L ht hx]
theorem StdAt.setLead (h : StdAt w B vu M H L) {t x : Nat} (ht : t < 7) (hx : x < 7) : StdAt (w.setCell ⟨B, 51 + t * 7 + x, none⟩ (.bool true)) B vu M H (setM L t x) := by
  have h' : w.heap[B]? = some (.cells (cells100 vu M H L) 62 (0, 0)) := h
  unfold StdAt World.setCell
  simp [Array.getElem?_modify, h', cells100_lead vu M H L ht hx]
/-- A row of what a deal had; all of it; all of who leads. -/
def row7 (f : Nat → Bool) : List Value := [.bool (f 0), .bool (f 1), .bool (f 2), .bool (f 3), .bool (f 4), .bool (f 5), .bool (f 6)]
theorem row7_at (f : Nat → Bool) {j : Nat} {v : Value} (h : (row7 f)[j]? = some v) : j < 7 ∧ v = .bool (f j) := by
  have hj : j < 7 := by
    have := (List.getElem?_eq_some_iff.1 h).1
    simpa [row7] using this
  refine ⟨hj, ?_⟩
  rcases (show j = 0 ∨ j = 1 ∨ j = 2 ∨ j = 3 ∨ j = 4 ∨ j = 5 ∨ j = 6 by omega) with e | e | e | e | e | e | e <;> subst e <;> simpa [row7] using h.symm
theorem StdAt.hadRow (h : StdAt w B vu M H L) {t : Nat} (ht : t < 7) : w.rangeAt B (2 + t * 7) (row7 (H t)) := fun j v hv => by
  obtain ⟨hj, rfl⟩ := row7_at _ hv
  exact h.had ht hj
theorem StdAt.hadAll (h : StdAt w B vu M H L) : w.rangeAt B 2 (cells49 H).toList := fun j v hv => by
  rw [Array.getElem?_toList] at hv
  have hj : j < 49 := by have := (Array.getElem?_eq_some_iff.1 hv).1; rwa [cells49_size] at this
  rw [cells49_at H j hj] at hv
  obtain rfl := Option.some.inj hv
  rw [h.cell (by omega)]
  unfold sPart
  rw [if_neg (by omega), if_neg (by omega), if_pos (by omega), show 2 + j - 2 = j by omega]
theorem StdAt.leadAll (h : StdAt w B vu M H L) : w.rangeAt B 51 (cells49 L).toList := fun j v hv => by
  rw [Array.getElem?_toList] at hv
  have hj : j < 49 := by have := (Array.getElem?_eq_some_iff.1 hv).1; rwa [cells49_size] at this
  rw [cells49_at L j hj] at hv
  obtain rfl := Option.some.inj hv
  rw [h.cell (by omega)]
  unfold sPart
  rw [if_neg (by omega), if_neg (by omega), if_neg (by omega), show 51 + j - 51 = j by omega]
end
/-- Who holds an item, as the map has it. -/
def hmF (h : Int → Int) : Int → Option Value := fun x => if h x = 0 then none else some (.int .i64 (h x))
theorem hmF_get (h : Int → Int) (x : Int) : (hmF h x).getD (.int .i64 0) = .int .i64 (h x) := by
  unfold hmF
  by_cases e : h x = 0
  · rw [if_pos e, e]; rfl
  · rw [if_neg e]; rfl
theorem hmF_lay (h : Int → Int) (x : Int) {t : Int} (ht : t ≠ 0) : setF (hmF h) x (some (.int .i64 t)) = hmF (setF h x t) := by
  funext y
  unfold hmF setF
  by_cases e : y = x
  · rw [if_pos e, if_pos e, if_neg ht]
  · rw [if_neg e, if_neg e]
theorem hmF_drop (h : Int → Int) (x : Int) : setF (hmF h) x none = hmF (setF h x 0) := by
  funext y
  unfold hmF setF
  by_cases e : y = x
  · rw [if_pos e, if_pos e, if_pos rfl]
  · rw [if_neg e, if_neg e]
/-- How things stand. -/
structure Std (w : World) (B M : Nat) (vu : Value) (s : Gst) (L : Int → Int → Bool) : Prop where
  blk : StdAt w B vu M (fun i k => s.had (i : Int) (k : Int)) (fun i k => L (i : Int) (k : Int))
  map : ∃ m, MapIs w M (hmF s.holder) m
  ne : B ≠ M
section
variable {w w1 : World} {B M n : Nat} {vu : Value} {s : Gst} {L : Int → Int → Bool}
theorem Std.ltM (h : Std w B M vu s L) : M < w.heap.size := by obtain ⟨m, hm⟩ := h.map; exact hm.lt
theorem Std.turn {F : Nat → Prop} (h : Std w B M vu s L) (ht : Turns F w w1) (hB : ¬ F B) (hM : ¬ F M) : Std w1 B M vu s L :=
  ⟨h.blk.same (ht.block B h.blk.lt hB), (by obtain ⟨m, hm⟩ := h.map; exact ⟨m, hm.turn ht hM⟩), h.ne⟩
theorem Std.later (h : Std w B M vu s L) (hb : Below w.heap.size w w1) : Std w1 B M vu s L := h.turn (Turns.of_below (F := fun _ => False) hb) id id
theorem Std.below (h : Std w B M vu s L) (hb : Below n w w1) (hB : B < n) (hM : M < n) : Std w1 B M vu s L :=
  ⟨h.blk.same (hb.block B hB), (by
    obtain ⟨m, hm⟩ := h.map
    obtain ⟨D, ⟨es, clock, hbk, r⟩, h2⟩ := hm
    exact ⟨m, D, ⟨es, clock, (hb.block M hM).trans hbk, r⟩, h2⟩), h.ne⟩
/-- One more had it. -/
theorem Std.setHad (h : Std w B M vu s L) {t x : Nat} (ht : t < 7) (hx : x < 7) : Std (w.setCell ⟨B, 2 + t * 7 + x, none⟩ (.bool true)) B M vu { s with had := setF s.had (t : Int) (setF (s.had (t : Int)) (x : Int) true) } L := by
  have hT : Turns (fun k => k = B) w (w.setCell ⟨B, 2 + t * 7 + x, none⟩ (.bool true)) := (Turns.refl (fun k => k = B) w).setCell (p := ⟨B, 2 + t * 7 + x, none⟩) (.inl rfl) _
  refine ⟨?_, (by obtain ⟨m, hm⟩ := h.map; exact ⟨m, hm.turn hT fun e => h.ne e.symm⟩), h.ne⟩
  have h1 := h.blk.setHad ht hx
  have e : setM (fun i k => s.had (i : Int) (k : Int)) t x = fun (i k : Nat) => setF s.had (t : Int) (setF (s.had (t : Int)) (x : Int) true) (i : Int) (k : Int) := by
    funext i k
    unfold setM setF
    by_cases e1 : i = t
    · subst e1
      rw [if_pos rfl]
      by_cases e2 : k = x
      · subst e2; rw [if_pos rfl, if_pos ⟨rfl, rfl⟩]
      · rw [if_neg (show ¬ ((k : Nat) : Int) = (x : Int) by omega), if_neg (show ¬ (i = i ∧ k = x) from fun e => e2 e.2)]
    · rw [if_neg (show ¬ (i = t ∧ k = x) from fun e => e1 e.1), if_neg (show ¬ ((i : Nat) : Int) = (t : Int) by omega)]
  rw [e] at h1
  exact h1
/-- Who leads to t, of the first k deals. -/
def ldTo (s : Gst) (L : Int → Int → Bool) (t x : Int) (k : Nat) : Int → Int → Bool := fun f u => (decide (u = t) && (decide (f < (k : Int)) && s.had f x)) || L f u
theorem Std.congr {L' : Int → Int → Bool} (h : Std w B M vu s L) (e : ∀ i k : Nat, L' (i : Int) (k : Int) = L (i : Int) (k : Int)) : Std w B M vu s L' := by
  refine ⟨?_, h.map, h.ne⟩
  have h1 := h.blk
  rw [show (fun i k : Nat => L' (i : Int) (k : Int)) = fun i k : Nat => L (i : Int) (k : Int) from funext fun i => funext fun k => e i k]
  exact h1
theorem Std.setLead {t k : Nat} {x : Int} (h : Std w B M vu s (ldTo s L (t : Int) x k)) (hk : k < 7) (ht : t < 7) (hh : s.had (k : Int) x = true) : Std (w.setCell ⟨B, 51 + k * 7 + t, none⟩ (.bool true)) B M vu s (ldTo s L (t : Int) x (k + 1)) := by
  have hT : Turns (fun k => k = B) w (w.setCell ⟨B, 51 + k * 7 + t, none⟩ (.bool true)) := (Turns.refl (fun k => k = B) w).setCell (p := ⟨B, 51 + k * 7 + t, none⟩) (.inl rfl) _
  refine ⟨?_, (by obtain ⟨m, hm⟩ := h.map; exact ⟨m, hm.turn hT fun e => h.ne e.symm⟩), h.ne⟩
  have h1 := h.blk.setLead hk ht
  have e : setM (fun i j => ldTo s L (t : Int) x k (i : Int) (j : Int)) k t = fun (i j : Nat) => ldTo s L (t : Int) x (k + 1) (i : Int) (j : Int) := by
    funext i j
    unfold setM ldTo
    by_cases e1 : i = k ∧ j = t
    · rw [if_pos e1, e1.1, e1.2, hh]
      simp
      left
      omega
    · rw [if_neg e1]
      dsimp only
      by_cases e2 : j = t
      · have e3 : i ≠ k := fun e => e1 ⟨e, e2⟩
        have e4 : decide ((i : Int) < (k : Int)) = decide ((i : Int) < ((k + 1 : Nat) : Int)) := decide_eq_decide.2 (by omega)
        rw [e4]
      · have e3 : decide ((j : Int) = (t : Int)) = false := decide_eq_false (by omega)
        rw [e3, Bool.false_and, Bool.false_and]
  rw [e] at h1
  exact h1
theorem Std.skipLead {t k : Nat} {x : Int} (h : Std w B M vu s (ldTo s L (t : Int) x k)) (hh : s.had (k : Int) x = false) : Std w B M vu s (ldTo s L (t : Int) x (k + 1)) := by
  refine h.congr fun i j => ?_
  unfold ldTo
  by_cases e1 : i = k
  · simp [e1, hh]
  · have e4 : decide ((i : Int) < (k : Int)) = decide ((i : Int) < ((k + 1 : Nat) : Int)) := decide_eq_decide.2 (by omega)
    rw [e4]
theorem Std.noLead {t : Nat} {x : Int} (h : Std w B M vu s L) : Std w B M vu s (ldTo s L (t : Int) x 0) := by
  refine h.congr fun i j => ?_
  unfold ldTo
  rw [decide_eq_false (show ¬ (i : Int) < ((0 : Nat) : Int) by omega), Bool.false_and, Bool.and_false, Bool.false_or]
end
end Go.Proofs.YtmgadiopjofegaiDoor
