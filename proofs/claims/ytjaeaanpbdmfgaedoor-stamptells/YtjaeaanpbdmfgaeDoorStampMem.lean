/-
  PROVED HERE: how laneref2.Stamp's variables (the greatest numbers that read and wrote each item, who is aborted, what is told, who was aborted) lie in memory, and what becomes of them when one is set.
  Conditions: none.
-/
import Derived.Test.YtjaeaanpbdmfgaeDoorStampPlain
import Derived.Test.YtjaeaanpbdmfgaeDoorLocksMem
import Derived.Test.YtjaeaanpbdmfgaeDoorAppendApart
import Derived.Test.YtjaeaanpbdmfgaeDoorIntRow
namespace Go.Proofs.YtjaeaanpbdmfgaeDoor
open Go.RowKit

structure StmAt (w : World) (B : Nat) (s : Stm) (tv vv : Value) : Prop where
  rd : ∀ k : Nat, k < 7 → w.cell? ⟨B, k, none⟩ = some (.int .i64 (s.rd k)) ∧ w.frozen? ⟨B, k, none⟩ = false
  wr : ∀ k : Nat, k < 7 → w.cell? ⟨B + 1, k, none⟩ = some (.int .i64 (s.wr k)) ∧ w.frozen? ⟨B + 1, k, none⟩ = false
  out : ∀ k : Nat, k < 7 → w.cell? ⟨B + 1 + 1, k, none⟩ = some (.bool (s.out k)) ∧ w.frozen? ⟨B + 1 + 1, k, none⟩ = false
  told : w.ownsRow (B + 3) 82 3 tv s.told.length (flat s.told)
  vict : w.ownsRow (B + 3) 3 1 vv s.vict.length (s.vict.map (Value.int .i64))
  apart : ∀ g, tv.ownBlock = some g → vv.ownBlock = some g → False
section
variable {w w1 w2 : World} {B : Nat} {s : Stm} {tv vv : Value}
theorem StmAt.lt (h : StmAt w B s tv vv) : B + 1 + 1 < w.heap.size := World.block_lt_of_cell? w _ (h.out 0 (by omega)).1
theorem StmAt.turn {F : Nat → Prop} (h : StmAt w B s tv vv) (ht : Turns F w w1) (h0 : ¬ F B) (h1 : ¬ F (B + 1)) (h2 : ¬ F (B + 1 + 1)) (h3 : ∀ g, tv.ownBlock = some g → ¬ F g) (h4 : ∀ g, vv.ownBlock = some g → ¬ F g) : StmAt w1 B s tv vv := by
  have hl := h.lt
  refine ⟨fun k hk => ?_, fun k hk => ?_, fun k hk => ?_, ht.own h.told h3, ht.own h.vict h4, h.apart⟩
  · exact ⟨(ht.cell (p := ⟨B, k, none⟩) (by show B < _; omega) h0).trans (h.rd k hk).1, (World.frozen?_of_block (a := ⟨B, k, none⟩) (ht.block B (by omega) h0)).trans (h.rd k hk).2⟩
  · exact ⟨(ht.cell (p := ⟨B + 1, k, none⟩) (by show B + 1 < _; omega) h1).trans (h.wr k hk).1, (World.frozen?_of_block (a := ⟨B + 1, k, none⟩) (ht.block (B + 1) (by omega) h1)).trans (h.wr k hk).2⟩
  · exact ⟨(ht.cell (p := ⟨B + 1 + 1, k, none⟩) (by show B + 1 + 1 < _; omega) h2).trans (h.out k hk).1, (World.frozen?_of_block (a := ⟨B + 1 + 1, k, none⟩) (ht.block (B + 1 + 1) (by omega) h2)).trans (h.out k hk).2⟩
theorem StmAt.below (h : StmAt w B s tv vv) (hb : Below w.heap.size w w1) : StmAt w1 B s tv vv := h.turn (Turns.of_below (F := fun _ => False) hb) (fun h => h) (fun h => h) (fun h => h) (fun _ _ h => h) fun _ _ h => h
theorem turn_cell (w : World) (p : Addr) (u : Value) : Turns (fun j => j = p.block) w (w.setCell p u) := by
  refine Turns.setCell (Turns.refl _ w) ?_ u
  exact .inl rfl
theorem int_set {w : World} {b k j : Nat} {x : Int} {f : Int → Int} (hk : w.cell? ⟨b, j, none⟩ = some (.int .i64 (f j)) ∧ w.frozen? ⟨b, j, none⟩ = false) : (w.setCell ⟨b, k, none⟩ (.int .i64 x)).cell? ⟨b, j, none⟩ = some (.int .i64 (setF f (k : Int) x (j : Int))) ∧ (w.setCell ⟨b, k, none⟩ (.int .i64 x)).frozen? ⟨b, j, none⟩ = false := by
  rw [World.frozen?_setCell]
  refine ⟨?_, hk.2⟩
  by_cases e : j = k
  · subst e; rw [setF_same]; exact World.cell?_setCell_same _ _ _ hk.1
  · rw [setF_other _ _ (by omega), World.cell?_setCell_other _ _ _ _ (by simp <;> omega)]; exact hk.1
theorem StmAt.setRd (h : StmAt w B s tv vv) (k : Nat) (x : Int) : StmAt (w.setCell ⟨B, k, none⟩ (.int .i64 x)) B { s with rd := setF s.rd (k : Int) x } tv vv := by
  have hl := h.lt
  have ht := turn_cell w ⟨B, k, none⟩ (.int .i64 x)
  refine ⟨fun j hj => int_set (h.rd j hj), fun j hj => ?_, fun j hj => ?_, ht.own h.told fun g hg e => by have := (h.told.lt g hg).1; simp at e; omega, ht.own h.vict fun g hg e => by have := (h.vict.lt g hg).1; simp at e; omega, h.apart⟩
  · exact ⟨(ht.cell (p := ⟨B + 1, j, none⟩) (by show B + 1 < _; omega) (by simp only []; omega)).trans (h.wr j hj).1, (World.frozen?_of_block (a := ⟨B + 1, j, none⟩) (ht.block (B + 1) (by omega) (by simp only []; omega))).trans (h.wr j hj).2⟩
  · exact ⟨(ht.cell (p := ⟨B + 1 + 1, j, none⟩) (by show B + 1 + 1 < _; omega) (by simp only []; omega)).trans (h.out j hj).1, (World.frozen?_of_block (a := ⟨B + 1 + 1, j, none⟩) (ht.block (B + 1 + 1) (by omega) (by simp only []; omega))).trans (h.out j hj).2⟩
theorem StmAt.setWr (h : StmAt w B s tv vv) (k : Nat) (x : Int) : StmAt (w.setCell ⟨B + 1, k, none⟩ (.int .i64 x)) B { s with wr := setF s.wr (k : Int) x } tv vv := by
  have hl := h.lt
  have ht := turn_cell w ⟨B + 1, k, none⟩ (.int .i64 x)
  refine ⟨fun j hj => ?_, fun j hj => int_set (h.wr j hj), fun j hj => ?_, ht.own h.told fun g hg e => by have := (h.told.lt g hg).1; simp at e; omega, ht.own h.vict fun g hg e => by have := (h.vict.lt g hg).1; simp at e; omega, h.apart⟩
  · exact ⟨(ht.cell (p := ⟨B, j, none⟩) (by show B < _; omega) (by simp only []; omega)).trans (h.rd j hj).1, (World.frozen?_of_block (a := ⟨B, j, none⟩) (ht.block B (by omega) (by simp only []; omega))).trans (h.rd j hj).2⟩
  · exact ⟨(ht.cell (p := ⟨B + 1 + 1, j, none⟩) (by show B + 1 + 1 < _; omega) (by simp only []; omega)).trans (h.out j hj).1, (World.frozen?_of_block (a := ⟨B + 1 + 1, j, none⟩) (ht.block (B + 1 + 1) (by omega) (by simp only []; omega))).trans (h.out j hj).2⟩
theorem StmAt.setOut (h : StmAt w B s tv vv) (k : Nat) (x : Bool) : StmAt (w.setCell ⟨B + 1 + 1, k, none⟩ (.bool x)) B { s with out := setF s.out (k : Int) x } tv vv := by
  have hl := h.lt
  have ht := turn_cell w ⟨B + 1 + 1, k, none⟩ (.bool x)
  refine ⟨fun j hj => ?_, fun j hj => ?_, fun j hj => ?_, ht.own h.told fun g hg e => by have := (h.told.lt g hg).1; simp at e; omega, ht.own h.vict fun g hg e => by have := (h.vict.lt g hg).1; simp at e; omega, h.apart⟩
  · exact ⟨(ht.cell (p := ⟨B, j, none⟩) (by show B < _; omega) (by simp only []; omega)).trans (h.rd j hj).1, (World.frozen?_of_block (a := ⟨B, j, none⟩) (ht.block B (by omega) (by simp only []; omega))).trans (h.rd j hj).2⟩
  · exact ⟨(ht.cell (p := ⟨B + 1, j, none⟩) (by show B + 1 < _; omega) (by simp only []; omega)).trans (h.wr j hj).1, (World.frozen?_of_block (a := ⟨B + 1, j, none⟩) (ht.block (B + 1) (by omega) (by simp only []; omega))).trans (h.wr j hj).2⟩
  · rw [World.frozen?_setCell]
    refine ⟨?_, (h.out j hj).2⟩
    by_cases e : j = k
    · subst e
      show _ = some (Value.bool (setF s.out (j : Int) x (j : Int)))
      rw [setF_same]; exact World.cell?_setCell_same _ _ _ (h.out j hj).1
    · show _ = some (Value.bool (setF s.out (k : Int) x (j : Int)))
      rw [setF_other _ _ (by omega), World.cell?_setCell_other _ _ _ _ (by simp <;> omega)]; exact (h.out j hj).1
/-- One more is told. -/
theorem StmAt.tell {x : Op3} {tv2 : Value} {ob : Obj} (h : StmAt w B s tv vv) (hown : w2.ownsRow (B + 3) 82 3 tv2 (s.told.length + 1) (flat s.told ++ flat [x])) (hgr : (w.alloc ob).grownBy w2 tv.ownBlock) (hap : ∀ g, tv2.ownBlock = some g → tv.ownBlock = some g ∨ (w.alloc ob).heap.size ≤ g) : StmAt w2 B { s with told := s.told ++ [x] } tv2 vv := by
  have htu : Turns (fun k => tv.ownBlock = some k) w w2 := ((Turns.refl _ w).alloc ob).grown hgr fun k hk => .inl hk
  have hn : ∀ j, j ≤ B + 1 + 1 → ¬ tv.ownBlock = some j := fun j hj e => by have := (h.told.lt j e).1; omega
  have hl := h.lt
  refine ⟨fun k hk => ?_, fun k hk => ?_, fun k hk => ?_, by show w2.ownsRow _ _ 3 tv2 (s.told ++ [x]).length (flat (s.told ++ [x])); rw [List.length_append, flat_append]; exact hown, htu.own h.vict fun g hg e => h.apart g e hg, fun g hg hg2 => ?_⟩
  · exact ⟨(htu.cell (p := ⟨B, k, none⟩) (by show B < _; omega) (hn B (by omega))).trans (h.rd k hk).1, (World.frozen?_of_block (a := ⟨B, k, none⟩) (htu.block B (by omega) (hn B (by omega)))).trans (h.rd k hk).2⟩
  · exact ⟨(htu.cell (p := ⟨B + 1, k, none⟩) (by show B + 1 < _; omega) (hn (B + 1) (by omega))).trans (h.wr k hk).1, (World.frozen?_of_block (a := ⟨B + 1, k, none⟩) (htu.block (B + 1) (by omega) (hn (B + 1) (by omega)))).trans (h.wr k hk).2⟩
  · exact ⟨(htu.cell (p := ⟨B + 1 + 1, k, none⟩) (by show B + 1 + 1 < _; omega) (hn (B + 1 + 1) (by omega))).trans (h.out k hk).1, (World.frozen?_of_block (a := ⟨B + 1 + 1, k, none⟩) (htu.block (B + 1 + 1) (by omega) (hn (B + 1 + 1) (by omega)))).trans (h.out k hk).2⟩
  · rcases hap g hg with h3 | h3
    · exact h.apart g h3 hg2
    · have := (h.vict.lt g hg2).2
      simp at h3
      omega
/-- One more is aborted. -/
theorem StmAt.more {x : Int} {vv2 : Value} {ob : Obj} (h : StmAt w B s tv vv) (hown : w2.ownsRow (B + 3) 3 1 vv2 (s.vict.length + 1) (s.vict.map (Value.int .i64) ++ [.int .i64 x])) (hgr : (w.alloc ob).grownBy w2 vv.ownBlock) (hap : ∀ g, vv2.ownBlock = some g → vv.ownBlock = some g ∨ (w.alloc ob).heap.size ≤ g) : StmAt w2 B { s with vict := s.vict ++ [x] } tv vv2 := by
  have htu : Turns (fun k => vv.ownBlock = some k) w w2 := ((Turns.refl _ w).alloc ob).grown hgr fun k hk => .inl hk
  have hn : ∀ j, j ≤ B + 1 + 1 → ¬ vv.ownBlock = some j := fun j hj e => by have := (h.vict.lt j e).1; omega
  have hl := h.lt
  refine ⟨fun k hk => ?_, fun k hk => ?_, fun k hk => ?_, htu.own h.told fun g hg e => h.apart g hg e, by show w2.ownsRow _ _ 1 vv2 (s.vict ++ [x]).length ((s.vict ++ [x]).map _); rw [List.length_append, List.map_append]; exact hown, fun g hg hg2 => ?_⟩
  · exact ⟨(htu.cell (p := ⟨B, k, none⟩) (by show B < _; omega) (hn B (by omega))).trans (h.rd k hk).1, (World.frozen?_of_block (a := ⟨B, k, none⟩) (htu.block B (by omega) (hn B (by omega)))).trans (h.rd k hk).2⟩
  · exact ⟨(htu.cell (p := ⟨B + 1, k, none⟩) (by show B + 1 < _; omega) (hn (B + 1) (by omega))).trans (h.wr k hk).1, (World.frozen?_of_block (a := ⟨B + 1, k, none⟩) (htu.block (B + 1) (by omega) (hn (B + 1) (by omega)))).trans (h.wr k hk).2⟩
  · exact ⟨(htu.cell (p := ⟨B + 1 + 1, k, none⟩) (by show B + 1 + 1 < _; omega) (hn (B + 1 + 1) (by omega))).trans (h.out k hk).1, (World.frozen?_of_block (a := ⟨B + 1 + 1, k, none⟩) (htu.block (B + 1 + 1) (by omega) (hn (B + 1 + 1) (by omega)))).trans (h.out k hk).2⟩
  · rcases hap g hg2 with h3 | h3
    · exact h.apart g hg h3
    · have := (h.told.lt g hg).2
      simp at h3
      omega
end
end Go.Proofs.YtjaeaanpbdmfgaeDoor
