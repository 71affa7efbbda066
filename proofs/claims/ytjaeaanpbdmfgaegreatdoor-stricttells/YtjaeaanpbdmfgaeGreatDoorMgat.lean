/-
  PROVED HERE: steps of a runner in memory (laneref2.Runner): what is told, who was aborted, what stands behind are set; steps one behind the other; those that come to be held, in a row of their own beside it.
  Conditions: none.
  PROVED HERE: laneref2.Runner's method forWhom, over a runner in memory: for whom a deal waits. Old memory stays as it was.
  Conditions: the lists are short.
  PROVED HERE: a square of bools in a block of memory of any type of that shape, and what becomes of it when one of them is set, when memory is made, and when old memory stays.
  Conditions: none.
-/
import Derived.Test.YtjaeaanpbdmfgaeGreatDoorMgam
import Derived.Test.YtjaeaanpbdmfgaeGreatDoorRefLocks4
import Derived.Deep.RegionHeld3
import Derived.Test.YtjaeaanpbdmfgaeGreatDoorMgaf
namespace Go.Proofs.YtjaeaanpbdmfgaeGreatDoor
open Go.RowKit

/-- A step of a runner: what it is then, and what has turned. -/
def RunStep (w w' : World) (R : Nat) (way : Int) (rv : Nat → Value) (r' : Runr) : Prop := ∃ rv', RunAt w' R way r' rv' ∧ Turns (footR R rv) w w' ∧ ∀ k, footR R rv' k → footR R rv k ∨ w.heap.size ≤ k
section
variable {w w1 w2 : World} {R : Nat} {way : Int} {r r1 r2 : Runr} {rv rv1 : Nat → Value}
theorem RunStep.same (h : RunAt w R way r rv) (hb : Below w.heap.size w w1) : RunStep w w1 R way rv r := ⟨rv, h.below hb, Turns.of_below hb, fun _ hk => .inl hk⟩
theorem RunStep.trans (ht : Turns (footR R rv) w w1) (hf : ∀ k, footR R rv1 k → footR R rv k ∨ w.heap.size ≤ k) (h2 : RunStep w1 w2 R way rv1 r2) : RunStep w w2 R way rv r2 := by
  obtain ⟨rv2, h3, h4, h5⟩ := h2
  refine ⟨rv2, h3, ht.trans h4 fun k hk hk2 => ?_, fun k hk => ?_⟩
  · rcases hf k hk2 with h | h
    · exact h
    · omega
  · rcases h5 k hk with h | h
    · exact hf k h
    · exact .inr (Nat.le_trans ht.size h)
/-- Behind steps that turned nothing of it. -/
theorem RunStep.later (hb : Below w.heap.size w w1) (h2 : RunStep w1 w2 R way rv r2) : RunStep w w2 R way rv r2 := RunStep.trans (Turns.of_below hb) (fun _ hk => .inl hk) h2
theorem RunStep.then_below (h : RunStep w w1 R way rv r1) (hb : Below w1.heap.size w1 w2) : RunStep w w2 R way rv r1 := by
  obtain ⟨rv', h1, h2, h3⟩ := h
  exact ⟨rv', h1.below hb, h2.then_below hb, h3⟩
theorem RunAt.told (h : RunAt w R way r rv) : w.ownsRow (R + 1) 43 3 (rv 2) r.told.length (flat r.told) := h.rows 2 (by omega)
theorem RunAt.vict (h : RunAt w R way r rv) : w.ownsRow (R + 1) 3 1 (rv 3) r.vict.length (r.vict.map (Value.int .i64)) := h.rows 3 (by omega)
theorem RunAt.behind (h : RunAt w R way r rv) {d : Nat} (hd : d < 7) : Tail w (R + 1) 43 3 (rv (d + 4)) (r.behind (d : Int)).length (flat (r.behind (d : Int))) := h.rows (d + 4) (by omega)
theorem RunAt.c45 (h : RunAt w R way r rv) : w.cell? ⟨R, 45, none⟩ = some (rv 2) := h.row (i := 2) (by omega)
theorem RunAt.c46 (h : RunAt w R way r rv) : w.cell? ⟨R, 46, none⟩ = some (rv 3) := h.row (i := 3) (by omega)
theorem RunAt.c31 (h : RunAt w R way r rv) {d : Nat} (hd : d < 7) : w.cell? ⟨R, 31 + d, none⟩ = some (rv (d + 4)) := h.row (i := d + 4) (by omega)
theorem RunAt.c3 (h : RunAt w R way r rv) {d : Nat} (hd : d < 7) : w.cell? ⟨R, 3 + d, none⟩ = some (.bool (r.waits (d : Int))) := by
  rw [h.cell (by omega)]
  unfold rPart
  rw [if_neg (by omega), if_neg (by omega), if_neg (by omega), if_pos (by omega)]
  simp
theorem RunAt.c38 (h : RunAt w R way r rv) {d : Nat} (hd : d < 7) : w.cell? ⟨R, 38 + d, none⟩ = some (.bool (r.out (d : Int))) := by
  rw [h.cell (by omega)]
  unfold rPart
  rw [if_neg (by omega), if_neg (by omega), if_neg (by omega), if_neg (by omega), if_neg (by omega), if_neg (by omega), if_pos (by omega)]
  simp
theorem RunAt.c0 (h : RunAt w R way r rv) : w.cell? ⟨R, 0, none⟩ = some (.int .i64 way) := h.cell (k := 0) (by omega)
theorem RunAt.c10 (h : RunAt w R way r rv) {d : Nat} (hd : d < 7) : w.cell? ⟨R, 10 + d * 3, none⟩ = some (.int .i64 (r.op (d : Int)).1) ∧ w.cell? ⟨R, 10 + d * 3 + 1, none⟩ = some (.int .i64 (r.op (d : Int)).2.1) ∧ w.cell? ⟨R, 10 + d * 3 + 2, none⟩ = some (.int .i64 (r.op (d : Int)).2.2) := by
  refine ⟨?_, ?_, ?_⟩
  · rw [h.cell (by omega)]
    unfold rPart
    rw [if_neg (by omega), if_neg (by omega), if_neg (by omega), if_neg (by omega), if_pos (by omega), if_pos (by omega), show (10 + d * 3 - 10) / 3 = d by omega]
  · rw [h.cell (by omega)]
    unfold rPart
    rw [if_neg (by omega), if_neg (by omega), if_neg (by omega), if_neg (by omega), if_pos (by omega), if_neg (by omega), if_pos (by omega), show (10 + d * 3 + 1 - 10) / 3 = d by omega]
  · rw [h.cell (by omega)]
    unfold rPart
    rw [if_neg (by omega), if_neg (by omega), if_neg (by omega), if_neg (by omega), if_pos (by omega), if_neg (by omega), if_neg (by omega), show (10 + d * 3 + 2 - 10) / 3 = d by omega]
/-- A row's block turned: the runner's own block did not. -/
theorem RunAt.kept (h : RunAt w R way r rv) {i : Nat} (hi : i < 11) (ht : Turns (fun k => (rv i).ownBlock = some k) w w1) (k : Nat) : w1.cell? ⟨R, k, none⟩ = w.cell? ⟨R, k, none⟩ ∧ w1.frozen? ⟨R, k, none⟩ = false := by
  have hn : ¬ (rv i).ownBlock = some R := fun e => by have := ((h.rows i hi).lt R e).1; omega
  exact ⟨ht.cell (p := ⟨R, k, none⟩) h.lt hn, (World.frozen?_of_block (a := ⟨R, k, none⟩) (ht.block R h.lt hn)).trans (h.thaw k)⟩
/-- Something more is told. -/
theorem RunAt.pushTold {v : Value} {x : Op3} (h : RunAt w R way r rv) (ht : Turns (fun k => (rv 2).ownBlock = some k) w w1) (hv : w1.ownsRow (R + 1) 43 3 v (r.told.length + 1) (flat r.told ++ flat [x])) (hap : ∀ g, v.ownBlock = some g → (rv 2).ownBlock = some g ∨ w.heap.size ≤ g) :
    w1.cell? ⟨R, 45, none⟩ = some (rv 2) ∧ w1.frozen? ⟨R, 45, none⟩ = false ∧ RunStep w (w1.setCell ⟨R, 45, none⟩ v) R way rv { r with told := r.told ++ [x] } := by
  obtain ⟨k1, k2⟩ := h.kept (i := 2) (by omega) ht 45
  refine ⟨k1.trans h.c45, k2, ?_⟩
  obtain ⟨h1, h2, h3⟩ := h.setRow (i := 2) (r1 := { r with told := r.told ++ [x] }) (by omega) ht (by show w1.ownsRow (R + 1) _ 3 v (r.told ++ [x]).length (flat (r.told ++ [x])); rw [List.length_append, flat_append]; exact hv) hap (fun j hj hne W u hu => by
    match j, hu with
    | 0, hu => exact hu
    | 1, hu => exact hu
    | 2, _ => exact absurd rfl hne
    | 3, hu => exact hu
    | d + 4, hu => exact hu) ⟨rfl, rfl, rfl⟩
  exact ⟨_, h1, h2, h3⟩
/-- One more is aborted. -/
theorem RunAt.pushVict {v : Value} {x : Int} (h : RunAt w R way r rv) (ht : Turns (fun k => (rv 3).ownBlock = some k) w w1) (hv : w1.ownsRow (R + 1) 3 1 v (r.vict.length + 1) (r.vict.map (Value.int .i64) ++ [.int .i64 x])) (hap : ∀ g, v.ownBlock = some g → (rv 3).ownBlock = some g ∨ w.heap.size ≤ g) :
    w1.cell? ⟨R, 46, none⟩ = some (rv 3) ∧ w1.frozen? ⟨R, 46, none⟩ = false ∧ RunStep w (w1.setCell ⟨R, 46, none⟩ v) R way rv { r with vict := r.vict ++ [x] } := by
  obtain ⟨k1, k2⟩ := h.kept (i := 3) (by omega) ht 46
  refine ⟨k1.trans h.c46, k2, ?_⟩
  obtain ⟨h1, h2, h3⟩ := h.setRow (i := 3) (r1 := { r with vict := r.vict ++ [x] }) (by omega) ht (by show w1.ownsRow (R + 1) _ 1 v (r.vict ++ [x]).length ((r.vict ++ [x]).map _); rw [List.length_append, List.map_append]; exact hv) hap (fun j hj hne W u hu => by
    match j, hu with
    | 0, hu => exact hu
    | 1, hu => exact hu
    | 2, hu => exact hu
    | 3, _ => exact absurd rfl hne
    | d + 4, hu => exact hu) ⟨rfl, rfl, rfl⟩
  exact ⟨_, h1, h2, h3⟩
/-- What stands behind one is another list. -/
theorem RunAt.setBehind {v : Value} {q : List Op3} {d : Nat} (hd : d < 7) (h : RunAt w R way r rv) (ht : Turns (fun k => (rv (d + 4)).ownBlock = some k) w w1) (hv : Tail w1 (R + 1) 43 3 v q.length (flat q)) (hap : ∀ g, v.ownBlock = some g → (rv (d + 4)).ownBlock = some g ∨ w.heap.size ≤ g) :
    RunStep w (w1.setCell ⟨R, 31 + d, none⟩ v) R way rv { r with behind := setF r.behind (d : Int) q } := by
  obtain ⟨h1, h2, h3⟩ := h.setRow (i := d + 4) (r1 := { r with behind := setF r.behind (d : Int) q }) (by omega) ht (by show Tail w1 (R + 1) _ 3 v (setF r.behind (d : Int) q (d : Int)).length (flat (setF r.behind (d : Int) q (d : Int))); rw [setF_same]; exact hv) hap (fun j hj hne W u hu => by
    match j, hu with
    | 0, hu => exact hu
    | 1, hu => exact hu
    | 2, hu => exact hu
    | 3, hu => exact hu
    | e + 4, hu =>
      show Tail W (R + 1) _ 3 u (setF r.behind (d : Int) q (e : Int)).length (flat (setF r.behind (d : Int) q (e : Int)))
      rw [setF_other _ _ (by omega)]
      exact hu) ⟨rfl, rfl, rfl⟩
  exact ⟨_, h1, h2, h3⟩
end
/-- A runner, and beside it those that have come to be held. -/
structure GrantAt (w0 w : World) (R : Nat) (way : Int) (rv0 : Nat → Value) (v : Value) (L : List Op3) (r : Runr) (rv : Nat → Value) : Prop where
  run : RunAt w R way r rv
  row : w.ownsRow w0.heap.size 67 3 v L.length (flat L)
  so : ∀ g, v.ownBlock = some g → ¬ footR R rv g
  turn : Turns (footR R rv0) w0 w
  feet : ∀ k, footR R rv k → footR R rv0 k ∨ w0.heap.size ≤ k
section
variable {w0 w w1 : World} {R : Nat} {way : Int} {r r1 : Runr} {rv0 rv : Nat → Value} {v : Value} {L : List Op3}
theorem GrantAt.below (h : GrantAt w0 w R way rv0 v L r rv) (hb : Below w.heap.size w w1) : GrantAt w0 w1 R way rv0 v L r rv :=
  ⟨h.run.below hb, (Turns.of_below (F := fun _ => False) hb).own h.row fun _ _ hf => hf, h.so, h.turn.then_below hb, h.feet⟩
theorem GrantAt.step (h : GrantAt w0 w R way rv0 v L r rv) (hs : RunStep w w1 R way rv r1) : ∃ rv1, GrantAt w0 w1 R way rv0 v L r1 rv1 := by
  obtain ⟨rv1, h1, h2, h3⟩ := hs
  refine ⟨rv1, h1, h2.own h.row fun g hg => h.so g hg, fun g hg hk => ?_, h.turn.trans h2 fun k hk hk2 => ?_, fun k hk => ?_⟩
  · rcases h3 g hk with h4 | h4
    · exact h.so g hg h4
    · have := (h.row.lt g hg).2; omega
  · rcases h.feet k hk2 with h4 | h4
    · exact h4
    · omega
  · rcases h3 k hk with h4 | h4
    · exact h.feet k h4
    · exact .inr (Nat.le_trans h.turn.size h4)
theorem GrantAt.done (h : GrantAt w0 w R way rv0 v L r rv) : RunStep w0 w R way rv0 r := ⟨rv, h.run, h.turn, h.feet⟩
/-- A table has been freed. -/
theorem GrantAt.start {s : Tab2 × List Op3} (h0 : RunAt w0 R way r rv0) (hf : Freed w0 w 47 R 1 (cells47 way r.waits r.out r.op rv0) (rv0 0) (rv0 1) v s) : ∃ rv, GrantAt w0 w R way rv0 v s.2 { r with tab := s.1 } rv := by
  obtain ⟨hv', wv', h1, h2, h3, h4, h5⟩ := hf
  obtain ⟨rv, k1, k2, k3⟩ := h0.setTab ⟨hv', wv', h2, h4, h5⟩
  refine ⟨rv, k1, h1, fun g hg hk => ?_, k2, k3⟩
  rcases hk with rfl | ⟨i, hi, hk⟩
  · have := (h1.lt g hg).1; have := h0.lt; omega
  · have hgl := h1.lt g hg
    have hb0 : rv 0 = hv' := by
      have e1 := k1.table.at0
      have e2 := h2.at0
      have hblk := k1.blk.symm.trans h2.blk
      simp only [Option.some.injEq, Obj.cells.injEq, and_true] at hblk
      rw [hblk] at e1
      exact (Option.some.inj (e1.symm.trans e2))
    have hb1 : rv 1 = wv' := by
      have e1 := k1.table.at1
      have e2 := h2.at1
      have hblk := k1.blk.symm.trans h2.blk
      simp only [Option.some.injEq, Obj.cells.injEq, and_true] at hblk
      rw [hblk] at e1
      exact (Option.some.inj (e1.symm.trans e2))
    rcases (show i = 0 ∨ i = 1 ∨ 2 ≤ i by omega) with rfl | rfl | h2i
    · rw [hb0] at hk; exact h3 g hg (.inr (.inl hk))
    · rw [hb1] at hk; exact h3 g hg (.inr (.inr hk))
    · have hold : rv i = rv0 i := by
        have hblk := k1.blk.symm.trans h2.blk
        simp only [Option.some.injEq, Obj.cells.injEq, and_true] at hblk
        have e1 := rpart_row way r.waits r.out r.op rv hi
        have e3 : (cells47 way r.waits r.out r.op rv)[posR i]? = some (rv i) := by rw [cells47_at _ _ _ _ _ _ (pos_lt hi), e1]
        have hblk' : cells47 way r.waits r.out r.op rv = put2 (cells47 way r.waits r.out r.op rv0) 1 hv' wv' := hblk
        rw [hblk', put2_at, if_neg (by unfold posR; split <;> omega), if_neg (by unfold posR; split <;> omega), cells47_at _ _ _ _ _ _ (pos_lt hi), rpart_row _ _ _ _ _ hi] at e3
        exact (Option.some.inj e3).symm
      rw [hold] at hk
      have := ((h0.rows i hi).lt g hk).2
      omega
end
end Go.Proofs.YtjaeaanpbdmfgaeGreatDoor

namespace Go.Proofs.YtjaeaanpbdmfgaeGreatDoor
open Go.RowKit

theorem find_hit {l : List Op3} {t : Int} : ∀ {k : Nat}, k < l.length → (∀ j, j < k → (opAt l j).1 ≠ t) → (opAt l k).1 = t → l.find? (fun y => y.1 == t) = some (opAt l k) := by
  induction l with
  | nil => intro k hk; simp at hk
  | cons y q ih =>
    intro k hk hno he
    cases k with
    | zero =>
      have : y.1 = t := by simpa [opAt, List.getD] using he
      simp [this, opAt, List.getD]
    | succ k =>
      have h0 : y.1 ≠ t := by simpa [opAt, List.getD] using hno 0 (by omega)
      have h1 := ih (k := k) (by simpa using hk) (fun j hj => by simpa [opAt, List.getD] using hno (j + 1) (by omega)) (by simpa [opAt, List.getD] using he)
      rw [List.find?_cons_of_neg (by simpa using h0), h1]
      simp [opAt, List.getD]
theorem find_none {l : List Op3} {t : Int} (h : ∀ j, j < l.length → (opAt l j).1 ≠ t) : l.find? (fun y => y.1 == t) = none := by
  rw [List.find?_eq_none]
  intro y hy
  obtain ⟨i, hi, rfl⟩ := List.mem_iff_getElem.1 hy
  have := h i hi
  simpa [opAt, List.getD, hi] using this
/-- Where a deal waits. -/
def WaitAt (l : List Op3) (t n : Int) : Prop := (n = -1 ∧ l.find? (fun y => y.1 == t) = none) ∨ ∃ k : Nat, n = k ∧ k < l.length ∧ l.find? (fun y => y.1 == t) = some (opAt l k)
set_option maxHeartbeats 4000000 in
theorem waiting_at (ty : TypeId) (T o : Nat) (cs : Array Value) (hv wv : Value) (s : Tab2) (t : Int) (w : World) (h : TabAt w ty T o cs hv wv s) (hl : s.2.length ≤ 1000) :
    Calls Tryz.prog 32 #[.pointer (some ⟨T, o, none⟩), .int .i64 t] w fun e w' => ∃ n : Int, e = .returned (.int .i64 n) ∧ w' = w ∧ WaitAt s.2 t n := by
  have c1 := h.c1
  obtain ⟨ad, c, rfl, -⟩ := own_slice3 h.ow
  have HR : Hid (w.ownsRow (T + 1) 67 3 (.slice ad s.2.length c) s.2.length (flat s.2)) := h.ow
  obtain ⟨l, hs⟩ : ∃ l, s.2 = l := ⟨_, rfl⟩
  rw [hs] at HR c1 hl ⊢
  clear h hs
  go_enter Tryz.func32, Tryz.ntmps32
  go_wp2_with fail
  go_loopw [5] (fun v5 wr => ∃ k : Nat, k ≤ l.length ∧ v5 = .int .i64 k ∧ (∀ j, j < k → (opAt l j).1 ≠ t) ∧ wr = w) (fun v5 _ => l.length - (intOf v5).toNat)
  case atStart => exact ⟨0, Nat.zero_le _, rfl, fun j hj => absurd hj (by omega), rfl⟩
  case round =>
    obtain ⟨k, hk, rfl, hno, rfl⟩ := hrel
    have HNO : Hid (∀ j, j < k → (opAt l j).1 ≠ t) := hno
    clear hno
    by_cases hlt : k < l.length
    · have hlt' : (k : Int) < (l.length : Int) := by omega
      obtain ⟨g, c2, hv2, -, -, -, e0, -, -⟩ := row_cells HR.out rfl hlt
      simp only [Value.slice.injEq] at hv2
      obtain ⟨rfl, -, rfl⟩ := hv2
      obtain ⟨t2, ht2⟩ : ∃ t2, (opAt l k).1 = t2 := ⟨_, rfl⟩
      rw [ht2] at e0
      have HT : Hid ((opAt l k).1 = t2) := ht2
      clear ht2
      by_cases he : t2 = t
      · subst he
        have HF : Hid (l.find? (fun y => y.1 == t2) = some (opAt l k)) := find_hit hlt HNO.out HT.out
        go_wp2_with fail
        go_ret
        exact ⟨_, rfl, rfl, .inr ⟨k, rfl, hlt, HF.out⟩⟩
      · have he' : (t2 == t) = false := by simpa using he
        go_wp2_with fail
        go_roundw
        case rel => exact ⟨k + 1, by omega, by go_num, fun j hj => by
          rcases Nat.lt_or_ge j k with h | h
          · exact HNO.out j h
          · rw [show j = k by omega, HT.out]; exact he, trivial⟩
        case measure => simp [intOf]; omega
    · have hlt' : ¬ (k : Int) < (l.length : Int) := by omega
      obtain rfl : k = l.length := by omega
      have HF : Hid (l.find? (fun y => y.1 == t) = none) := find_none HNO.out
      go_wp2_with fail
      go_ret
      exact ⟨_, rfl, rfl, .inl ⟨rfl, HF.out⟩⟩
set_option maxHeartbeats 8000000 in
set_option maxRecDepth 100000 in
theorem forWhom_any (R : Nat) (way : Int) (r : Runr) (rv : Nat → Value) (t : Int) (w : World) (h : RunAt w R way r rv) (hl1 : r.tab.1.length ≤ 900) (hl2 : r.tab.2.length ≤ 900) :
    Calls Tryz.prog 20 #[.pointer (some ⟨R, 0, none⟩), .int .i64 t] w fun e w' => ∃ v', e = .returned v' ∧ OwnI w' w.heap.size v' (whomR r.tab t) ∧ Below w.heap.size w w' := by
  have HT : Hid (TabAt w 47 R 1 (cells47 way r.waits r.out r.op rv) (rv 0) (rv 1) r.tab) := h.table
  obtain ⟨hv, hhv⟩ : ∃ v, rv 0 = v := ⟨_, rfl⟩
  obtain ⟨wv, hwv⟩ : ∃ v, rv 1 = v := ⟨_, rfl⟩
  obtain ⟨cs, hcs⟩ : ∃ cs, cells47 way r.waits r.out r.op rv = cs := ⟨_, rfl⟩
  obtain ⟨s, hs⟩ : ∃ s, r.tab = s := ⟨_, rfl⟩
  rw [hhv, hwv, hcs, hs] at HT
  rw [hs] at hl1 hl2 ⊢
  clear h hhv hwv hcs hs
  go_enter Tryz.func20, Tryz.ntmps20
  go_wp2_with fail
  refine (waiting_at 47 R 1 cs hv wv s t w HT.out (by omega)).mono ?_
  rintro e w1 ⟨n, rfl, hw1, hn⟩
  rw [hw1]
  clear hw1 w1
  rcases hn with ⟨rfl, hf⟩ | ⟨k, rfl, hk, hf⟩
  · have HW : Hid (whomR s t = []) := by show whomR s t = []; unfold whomR; rw [hf]
    clear hf
    go_wp2_with fail
    go_ret
    exact ⟨_, rfl, by rw [HW.out]; exact ownI_nil _ _, Below.refl _ _⟩
  · have HW : Hid (whomR s t = forT s (opAt s.2 k)) := by show whomR s t = _; unfold whomR; rw [hf]
    clear hf
    have c1 := HT.out.c1
    obtain ⟨g, c2, hv2, -, hgl, -, e0, e1, e2⟩ := row_cells HT.out.ow rfl hk
    subst hv2
    obtain ⟨⟨t2, i2, m2⟩, ho⟩ : ∃ o : Op3, opAt s.2 k = o := ⟨_, rfl⟩
    rw [ho] at e0 e1 e2 HW
    simp only at e0 e1 e2
    have HC : Hid (Calls Tryz.prog 35 #[.pointer (some ⟨R, 1, none⟩), .agg #[.int .i64 t2, .int .i64 i2, .int .i64 m2]] w.drew fun e w' => ∃ v', e = .returned v' ∧ OwnI w' w.heap.size v' (forT s (t2, i2, m2)) ∧ Below w.heap.size w w') := by
      have hb : Below w.heap.size w w.drew := (Below.refl _ w).drew
      exact (refFor_own 47 R 1 cs hv _ s (t2, i2, m2) w.drew (HT.out.below hb) (by omega) (by omega)).mono fun _ _ ⟨v', h1, h2, h3⟩ => ⟨v', h1, h2, hb.trans h3⟩
    clear ho
    have hk0 : (0 : Int) ≤ (k : Int) := by omega
    have hkn : ¬ (k : Int) < 0 := by omega
    have hkl : (k : Int) < (s.2.length : Int) := by omega
    go_wp2_with fail
    go_region_held3 (fun w' => w'.cell? ⟨R, 1 + 1, none⟩ = some (.slice (some ⟨g, 0, none⟩) s.2.length c2) ∧ w'.cell? ⟨g, k * 3, none⟩ = some (.int .i64 t2) ∧ w'.cell? ⟨g, k * 3 + 1, none⟩ = some (.int .i64 i2) ∧ w'.cell? ⟨g, k * 3 + 2, none⟩ = some (.int .i64 m2)) (first | exact ⟨z1, z2, z3, z4⟩ | exact ⟨c1, e0, e1, e2⟩) (first | (go_at_call 35; refine HC.out.mono ?_; rintro e w2 ⟨v2, rfl, hi2, hb2⟩; have z1 := (hb2.cell (p := ⟨R, 1 + 1, none⟩) HT.out.lt).trans c1; have z2 := (hb2.cell (p := ⟨g, k * 3, none⟩) hgl).trans e0; have z3 := (hb2.cell (p := ⟨g, k * 3 + 1, none⟩) hgl).trans e1; have z4 := (hb2.cell (p := ⟨g, k * 3 + 2, none⟩) hgl).trans e2))
    all_goals
      go_wp2_with fail
      go_ret
      exact ⟨_, rfl, by rw [HW.out]; exact hi2, hb2⟩
end Go.Proofs.YtjaeaanpbdmfgaeGreatDoor

namespace Go.Proofs.YtjaeaanpbdmfgaeGreatDoor
open Go.RowKit

def MatT (T : TypeId) (w : World) (b : Nat) (s : Step7) : Prop := w.heap[b]? = some (.cells (cells49 s) T (0, 0))
theorem MatT.lt {T : TypeId} {w : World} {b : Nat} {s : Step7} (h : MatT T w b s) : b < w.heap.size := by
  have h' : w.heap[b]? = some _ := h
  exact (Array.getElem?_eq_some_iff.1 h').1
theorem MatT.cell {T : TypeId} {w : World} {b : Nat} {s : Step7} (h : MatT T w b s) {i k : Nat} (hi : i < 7) (hk : k < 7) : w.cell? ⟨b, i * 7 + k, none⟩ = some (.bool (s i k)) := by
  rw [cell_of_row w b _ _ _ _ h, cells49_at s _ (by omega), flat_two i k hk]
theorem MatT.thaw {T : TypeId} {w : World} {b : Nat} {s : Step7} (h : MatT T w b s) (k : Nat) : w.frozen? ⟨b, k, none⟩ = false := by
  have h' : w.heap[b]? = some _ := h
  simp [World.frozen?, h']
theorem MatT.drew {T : TypeId} {w : World} {b : Nat} {s : Step7} (h : MatT T w b s) : MatT T w.drew b s := h
theorem MatT.below {T : TypeId} {w w1 : World} {b B : Nat} {s : Step7} (h : MatT T w b s) (hb : Below B w w1) (hB : b < B) : MatT T w1 b s := (hb.block b hB).trans h
theorem MatT.alloc {T : TypeId} {w : World} {b : Nat} {s : Step7} (h : MatT T w b s) (o : Obj) : MatT T (w.alloc o) b s := (Below.heap_alloc w o b h.lt).trans h
theorem MatT.far {T : TypeId} {w : World} {b : Nat} {s : Step7} (h : MatT T w b s) {p : Addr} (v : Value) (hp : b ≠ p.block) : MatT T (w.setCell p v) b s := (Below.heap_setCell w p v b hp).trans h
theorem MatT.set {T : TypeId} {w : World} {b t a : Nat} {s : Step7} (h : MatT T w b s) (ha : a < 7) : MatT T (w.setCell ⟨b, t * 7 + a, none⟩ (.bool true)) b (setM s t a) := by
  have h' : w.heap[b]? = some (.cells (cells49 s) T (0, 0)) := h
  unfold MatT World.setCell
  rw [Array.getElem?_modify]
  simp [h', cells49_set s t a ha]
theorem MatT.congr {T : TypeId} {w : World} {b : Nat} {s r : Step7} (h : MatT T w b s) (he : s = r) : MatT T w b r := he ▸ h
theorem matT_box (T : TypeId) (w : World) (s : Step7) : MatT T (w.alloc (.cells (cells49 s) T)) w.heap.size s := by
  unfold MatT World.alloc
  simp
theorem matT_fresh (T : TypeId) (w : World) (c : Array Value) (h : cells49 (fun _ _ => false) = c) : MatT T (w.alloc (.cells c T)) w.heap.size (fun _ _ => false) := h ▸ matT_box T w _
theorem matT_fresh2 (T : TypeId) (w : World) (o : Obj) (c : Array Value) (h : cells49 (fun _ _ => false) = c) : MatT T ((w.alloc o).alloc (.cells c T)) (w.heap.size + 1) (fun _ _ => false) := by
  have := matT_fresh T (w.alloc o) c h
  simpa using this
theorem MatT.drewN {T : TypeId} {w : World} {b n : Nat} {s : Step7} (h : MatT T w b s) : MatT T (w.drewN n) b s := h
end Go.Proofs.YtjaeaanpbdmfgaeGreatDoor
