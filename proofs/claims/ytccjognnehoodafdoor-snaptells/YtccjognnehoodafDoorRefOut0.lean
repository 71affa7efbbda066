/-
  PROVED HERE: how laneref2.Outcome's variables (who is done, what was seen, who wrote last) lie in memory that was made since a world, and what becomes of them when one is set.
  Conditions: none.
-/
import Derived.Test.YtccjognnehoodafDoorMgav
import Derived.Test.YtccjognnehoodafDoorVictMap
import Derived.Test.YtccjognnehoodafDoorMgbl
import Derived.Test.YtccjognnehoodafDoorMgay
import Derived.Laws.OwnMore
namespace Go.Proofs.YtccjognnehoodafDoor
open Go.RowKit

theorem lastL_at (of : Int → Dl) (ds : List Int) {j : Nat} (h : j < 6) : (lastL of ds).getD j 0 = lastF6 of ds j := by simp [lastL, h]
/-- One more has written its items, as far as they have been gone over. -/
def lastJ (of : Int → Dl) (ds : List Int) (t : Int) (ws : List Int) (i : Nat) : Int := if inB ws ((i : Int) + 1) = true then t else lastF6 of ds i
theorem lastJ_nil (of : Int → Dl) (ds : List Int) (t : Int) : lastJ of ds t [] = lastF6 of ds := by funext i; unfold lastJ; rw [if_neg (by simp [inB])]
theorem lastJ_all (of : Int → Dl) (ds : List Int) (t : Int) : lastJ of ds t (of t).wrote = lastF6 of (ds ++ [t]) := by
  funext i
  unfold lastJ lastF6
  rw [lastK_snoc]
theorem lastJ_snoc (of : Int → Dl) (ds : List Int) (t : Int) (ws : List Int) {k : Nat} : lastJ of ds t (ws ++ [(k : Int) + 1]) = fun j => if j = k then t else lastJ of ds t ws j := by
  funext i
  unfold lastJ
  by_cases e : i = k
  · subst e
    rw [if_pos (by simp [inB]), if_pos rfl]
  · rw [if_neg e]
    have : inB (ws ++ [(k : Int) + 1]) ((i : Int) + 1) = inB ws ((i : Int) + 1) := by
      unfold inB
      simp
      omega
    rw [this]
/-- An outcome that is being made. -/
structure OutAt (w0 w : World) (Z U L : Nat) (dv sv : Value) (ds : List Int) (se : List Op3) (la : Nat → Int) : Prop where
  res : w.heap[Z]? = some (.cells #[.slice none 0 0, .slice none 0 0, .slice none 0 0] 26 (0, 0))
  blk : w.heap[U]? = some (.cells #[dv, sv, .slice (some ⟨L, 0, none⟩) 6 6] 26 (0, 0))
  done : w.ownsRow w0.heap.size 3 1 dv ds.length (ds.map (Value.int .i64))
  seen : w.ownsRow w0.heap.size 63 3 sv se.length (flat se)
  last : NumsAt w L 6 la
  old : Below w0.heap.size w0 w
  newU : w0.heap.size ≤ U
  newL : w0.heap.size ≤ L ∧ L < w.heap.size
  zu : Z ≠ U
  zl : Z ≠ L
  ul : U ≠ L
  dz : ∀ k, dv.ownBlock = some k → k ≠ Z ∧ k ≠ U ∧ k ≠ L
  sz : ∀ k, sv.ownBlock = some k → k ≠ Z ∧ k ≠ U ∧ k ≠ L
  ds_ : ∀ k, dv.ownBlock = some k → ¬ sv.ownBlock = some k
section
variable {w0 w w1 : World} {Z U L : Nat} {dv sv v2 : Value} {ds : List Int} {se : List Op3} {la : Nat → Int} {F : Nat → Prop}
theorem OutAt.ltU (h : OutAt w0 w Z U L dv sv ds se la) : U < w.heap.size := (Array.getElem?_eq_some_iff.1 h.blk).1
theorem OutAt.ltZ (h : OutAt w0 w Z U L dv sv ds se la) : Z < w.heap.size := (Array.getElem?_eq_some_iff.1 h.res).1
theorem OutAt.turn (h : OutAt w0 w Z U L dv sv ds se la) (ht : Turns F w w1) (hZ : ¬ F Z) (hU : ¬ F U) (hL : ¬ F L) (hd : ∀ k, dv.ownBlock = some k → ¬ F k) (hs : ∀ k, sv.ownBlock = some k → ¬ F k) (ho : ∀ k, k < w0.heap.size → ¬ F k) : OutAt w0 w1 Z U L dv sv ds se la :=
  ⟨(ht.block Z h.ltZ hZ).trans h.res, (ht.block U h.ltU hU).trans h.blk, ht.own h.done hd, ht.own h.seen hs, h.last.turn ht h.newL.2 hL, h.old.trans (ht.below h.old.size ho), h.newU, ⟨h.newL.1, Nat.lt_of_lt_of_le h.newL.2 ht.size⟩, h.zu, h.zl, h.ul, h.dz, h.sz, h.ds_⟩
theorem OutAt.later (h : OutAt w0 w Z U L dv sv ds se la) (hb : Below w.heap.size w w1) : OutAt w0 w1 Z U L dv sv ds se la :=
  h.turn (Turns.of_below (F := fun _ => False) hb) (fun hf => hf) (fun hf => hf) (fun hf => hf) (fun _ _ hf => hf) (fun _ _ hf => hf) (fun _ _ hf => hf)
theorem OutAt.cells (h : OutAt w0 w Z U L dv sv ds se la) : w.cell? ⟨U, 0, none⟩ = some dv ∧ w.cell? ⟨U, 1, none⟩ = some sv ∧ w.cell? ⟨U, 2, none⟩ = some (.slice (some ⟨L, 0, none⟩) 6 6) := by
  refine ⟨?_, ?_, ?_⟩ <;> rw [cell_of_row w U _ _ _ _ h.blk] <;> rfl
theorem OutAt.thaw (h : OutAt w0 w Z U L dv sv ds se la) (k : Nat) : w.frozen? ⟨U, k, none⟩ = false := by simp [World.frozen?, h.blk]
/-- A number of the last row is set. -/
theorem OutAt.put (h : OutAt w0 w Z U L dv sv ds se la) {k : Nat} (hk : k < 6) (x : Int) : OutAt w0 (w.setCell ⟨L, k, none⟩ (.int .i64 x)) Z U L dv sv ds se (fun j => if j = k then x else la j) := by
  have ht : Turns (fun j => j = L) w (w.setCell ⟨L, k, none⟩ (.int .i64 x)) := by
    refine Turns.setCell (Turns.refl _ w) ?_ _
    exact .inl rfl
  exact ⟨(ht.block Z h.ltZ h.zl).trans h.res, (ht.block U h.ltU h.ul).trans h.blk, ht.own h.done (fun j hj e => (h.dz j hj).2.2 e), ht.own h.seen (fun j hj e => (h.sz j hj).2.2 e), h.last.set hk x, h.old.setCell h.newL.1 _, h.newU, ⟨h.newL.1, by simpa using h.newL.2⟩, h.zu, h.zl, h.ul, h.dz, h.sz, h.ds_⟩
/-- One more is done: its row has grown, and is set. -/
theorem OutAt.pushD {x : Int} (h : OutAt w0 w Z U L dv sv ds se la) (ht : Turns (fun k => dv.ownBlock = some k) w w1) (hv : w1.ownsRow w0.heap.size 3 1 v2 (ds.length + 1) (ds.map (Value.int .i64) ++ [.int .i64 x])) (hap : ∀ q, v2.ownBlock = some q → dv.ownBlock = some q ∨ w.heap.size ≤ q) :
    w1.cell? ⟨U, 0, none⟩ = some dv ∧ w1.frozen? ⟨U, 0, none⟩ = false ∧ OutAt w0 (w1.setCell ⟨U, 0, none⟩ v2) Z U L v2 sv (ds ++ [x]) se la := by
  have hZ := h.ltZ
  have hU := h.ltU
  have hnd : ∀ k, k < w0.heap.size → ¬ dv.ownBlock = some k := fun k hk e => by have := (h.done.lt k e).1; omega
  have h1 := h.turn (F := fun k => dv.ownBlock = some k) ht (fun e => (h.dz _ e).1 rfl) (fun e => (h.dz _ e).2.1 rfl) (fun e => (h.dz _ e).2.2 rfl)
  have hb1 : w1.heap[U]? = some (.cells #[dv, sv, .slice (some ⟨L, 0, none⟩) 6 6] 26 (0, 0)) := (ht.block U hU (fun e => (h.dz _ e).2.1 rfl)).trans h.blk
  have hr1 : w1.heap[Z]? = _ := (ht.block Z hZ (fun e => (h.dz _ e).1 rfl)).trans h.res
  have hv2 : ∀ k, v2.ownBlock = some k → (k ≠ Z ∧ k ≠ U ∧ k ≠ L) ∧ ¬ sv.ownBlock = some k := fun k hk => by
    rcases hap k hk with e | e
    · exact ⟨h.dz k e, h.ds_ k e⟩
    · exact ⟨⟨by omega, by omega, by have := h.newL.2; omega⟩, fun e2 => by have := (h.seen.lt k e2).2; omega⟩
  have hset : Turns (fun k => k = U) w1 (w1.setCell ⟨U, 0, none⟩ v2) := by
    refine Turns.setCell (Turns.refl _ w1) ?_ _
    exact .inl rfl
  have hL1 : L < w1.heap.size := Nat.lt_of_lt_of_le h.newL.2 ht.size
  refine ⟨by rw [cell_of_row w1 U _ _ _ _ hb1]; rfl, by simp [World.frozen?, hb1], ⟨?_, ?_, ?_, ?_, ?_, ?_, h.newU, ⟨h.newL.1, by simpa using hL1⟩, h.zu, h.zl, h.ul, fun k hk => (hv2 k hk).1, h.sz, fun k hk => (hv2 k hk).2⟩⟩
  · rw [Below.heap_setCell _ _ _ _ h.zu]; exact hr1
  · rw [block_set hb1]; rfl
  · rw [List.length_append, List.map_append]
    exact hset.own hv fun k hk e => (hv2 k hk).1.2.1 e
  · exact hset.own (ht.own h.seen fun k hk e => h.ds_ k e hk) fun k hk e => (h.sz k hk).2.1 e
  · exact (h.last.turn ht h.newL.2 (fun e => (h.dz _ e).2.2 rfl)).turn hset hL1 (fun e => h.ul e.symm)
  · exact (h.old.trans (ht.below h.old.size hnd)).setCell h.newU _
/-- More has been seen. -/
theorem OutAt.pushS {x : List Op3} (h : OutAt w0 w Z U L dv sv ds se la) (ht : Turns (fun k => sv.ownBlock = some k) w w1) (hv : w1.ownsRow w0.heap.size 63 3 v2 (se.length + x.length) (flat se ++ flat x)) (hap : ∀ q, v2.ownBlock = some q → sv.ownBlock = some q ∨ w.heap.size ≤ q) :
    w1.cell? ⟨U, 1, none⟩ = some sv ∧ w1.frozen? ⟨U, 1, none⟩ = false ∧ OutAt w0 (w1.setCell ⟨U, 1, none⟩ v2) Z U L dv v2 ds (se ++ x) la := by
  have hZ := h.ltZ
  have hU := h.ltU
  have hnd : ∀ k, k < w0.heap.size → ¬ sv.ownBlock = some k := fun k hk e => by have := (h.seen.lt k e).1; omega
  have hb1 : w1.heap[U]? = some (.cells #[dv, sv, .slice (some ⟨L, 0, none⟩) 6 6] 26 (0, 0)) := (ht.block U hU (fun e => (h.sz _ e).2.1 rfl)).trans h.blk
  have hr1 : w1.heap[Z]? = _ := (ht.block Z hZ (fun e => (h.sz _ e).1 rfl)).trans h.res
  have hv2 : ∀ k, v2.ownBlock = some k → (k ≠ Z ∧ k ≠ U ∧ k ≠ L) ∧ ¬ dv.ownBlock = some k := fun k hk => by
    rcases hap k hk with e | e
    · exact ⟨h.sz k e, fun e2 => h.ds_ k e2 e⟩
    · exact ⟨⟨by omega, by omega, by have := h.newL.2; omega⟩, fun e2 => by have := (h.done.lt k e2).2; omega⟩
  have hset : Turns (fun k => k = U) w1 (w1.setCell ⟨U, 1, none⟩ v2) := by
    refine Turns.setCell (Turns.refl _ w1) ?_ _
    exact .inl rfl
  have hL1 : L < w1.heap.size := Nat.lt_of_lt_of_le h.newL.2 ht.size
  refine ⟨by rw [cell_of_row w1 U _ _ _ _ hb1]; rfl, by simp [World.frozen?, hb1], ⟨?_, ?_, ?_, ?_, ?_, ?_, h.newU, ⟨h.newL.1, by simpa using hL1⟩, h.zu, h.zl, h.ul, h.dz, fun k hk => (hv2 k hk).1, fun k hk e => (hv2 k e).2 hk⟩⟩
  · rw [Below.heap_setCell _ _ _ _ h.zu]; exact hr1
  · rw [block_set hb1]; rfl
  · exact hset.own (ht.own h.done fun k hk e => h.ds_ k hk e) fun k hk e => (h.dz k hk).2.1 e
  · rw [List.length_append, flat_append]
    exact hset.own hv fun k hk e => (hv2 k hk).1.2.1 e
  · exact (h.last.turn ht h.newL.2 (fun e => (h.sz _ e).2.2 rfl)).turn hset hL1 (fun e => h.ul e.symm)
  · exact (h.old.trans (ht.below h.old.size hnd)).setCell h.newU _
end
end Go.Proofs.YtccjognnehoodafDoor
