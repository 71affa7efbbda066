/-
  PROVED HERE: how a Log lies in memory (a block with a row of bytes, how many are safe, how many steps are left, whether it has stopped), and package log's New, Bytes, Safe, Fail, stops.
  Conditions: none.
-/
import Derived.Test.YtggieffpehbfaaaDoorLgAsk
import Derived.Test.YtggieffpehbfaaaDoorAppendSrc
import Derived.Laws.Small
namespace Go.Proofs.YtggieffpehbfaaaDoor
open Go.RowKit

/-- The bytes of records, three each. -/
def recL : List Op3 → List Value
  | [] => []
  | o :: r => .int .u8 o.1 :: .int .u8 o.2.1 :: .int .u8 o.2.2 :: recL r
theorem recL_length (l : List Op3) : (recL l).length = l.length * 3 := by
  induction l with
  | nil => rfl
  | cons o r ih => simp [recL, ih]; omega
theorem recL_append (l m : List Op3) : recL (l ++ m) = recL l ++ recL m := by
  induction l with
  | nil => rfl
  | cons o r ih => simp [recL, ih]
theorem recL_take (l : List Op3) (k : Nat) : (recL l).take (k * 3) = recL (l.take k) := by
  induction l generalizing k with
  | nil => simp [recL]
  | cons o r ih =>
    cases k with
    | zero => simp [recL]
    | succ k => rw [show (k + 1) * 3 = k * 3 + 3 by omega]; simp [recL, ih]
theorem recL_at (l : List Op3) : ∀ i, i < l.length → (recL l)[i * 3]? = some (.int .u8 (l.getD i (0, 0, 0)).1) ∧ (recL l)[i * 3 + 1]? = some (.int .u8 (l.getD i (0, 0, 0)).2.1) ∧ (recL l)[i * 3 + 2]? = some (.int .u8 (l.getD i (0, 0, 0)).2.2) := by
  induction l with
  | nil => intro i hi; cases hi
  | cons o r ih =>
    intro i hi
    cases i with
    | zero => exact ⟨rfl, rfl, rfl⟩
    | succ i =>
      have := ih i (by simpa using hi)
      rw [show (i + 1) * 3 = i * 3 + 3 by omega]
      simpa [recL] using this
/-- Where so many records end. -/
def endsN (n : Nat) : List Nat := (List.range n).map fun i => (i + 1) * 3
theorem endsN_succ (n : Nat) : endsN (n + 1) = endsN n ++ [(n + 1) * 3] := by unfold endsN; rw [List.range_succ, List.map_append]; rfl
theorem endsN_len (n : Nat) : (endsN n).length = n := by simp [endsN]
theorem endsN_take (n k : Nat) (h : k ≤ n) : (endsN n).take k = endsN k := by
  unfold endsN
  rw [← List.map_take, List.take_range, Nat.min_eq_left h]
theorem endsN_last (n : Nat) : lastE (endsN n) = n * 3 := by
  cases n with
  | zero => rfl
  | succ n => rw [endsN_succ, lastE_snoc]
theorem endsN_low (n h : Nat) (hh : h < (n + 1) * 3) : ((endsN n).filter fun e => decide (e ≤ h)).length = h / 3 := by
  induction n with
  | zero => simp [endsN]; omega
  | succ n ih =>
    rw [endsN_succ, List.filter_append, List.length_append]
    by_cases h3 : (n + 1) * 3 ≤ h
    · have h1 : (endsN n).filter (fun e => decide (e ≤ h)) = endsN n := by
        refine List.filter_eq_self.2 fun e he => ?_
        unfold endsN at he
        obtain ⟨i, hi, rfl⟩ := List.mem_map.1 he
        have := List.mem_range.1 hi
        exact decide_eq_true (by omega)
      rw [h1, endsN_len]
      simp [h3]
      omega
    · rw [ih (by omega)]
      simp [h3]
theorem endsN_three {n e : Nat} (h : e ∈ endsN n) : e % 3 = 0 := by
  unfold endsN at h
  obtain ⟨i, _, rfl⟩ := List.mem_map.1 h
  omega
/-- The block. -/
def LogAt (w : World) (p : Nat) (bv : Value) (sf st : Int) (sp : Bool) : Prop := w.heap[p]? = some (.cells #[bv, .int .i64 sf, .int .i64 st, .bool sp] 47 (0, 0))
section
variable {w w1 : World} {p : Nat} {bv : Value} {sf st : Int} {sp : Bool}
theorem LogAt.lt (h : LogAt w p bv sf st sp) : p < w.heap.size := by
  have h' : w.heap[p]? = some _ := h
  exact (Array.getElem?_eq_some_iff.1 h').1
theorem LogAt.row (h : LogAt w p bv sf st sp) : w.cell? ⟨p, 0, none⟩ = some bv := by rw [cell_of_row w p _ _ _ _ h]; rfl
theorem LogAt.safe (h : LogAt w p bv sf st sp) : w.cell? ⟨p, 1, none⟩ = some (.int .i64 sf) := by rw [cell_of_row w p _ _ _ _ h]; rfl
theorem LogAt.left (h : LogAt w p bv sf st sp) : w.cell? ⟨p, 2, none⟩ = some (.int .i64 st) := by rw [cell_of_row w p _ _ _ _ h]; rfl
theorem LogAt.stop (h : LogAt w p bv sf st sp) : w.cell? ⟨p, 3, none⟩ = some (.bool sp) := by rw [cell_of_row w p _ _ _ _ h]; rfl
theorem LogAt.thaw (h : LogAt w p bv sf st sp) (k : Nat) : w.frozen? ⟨p, k, none⟩ = false := by
  have h' : w.heap[p]? = some _ := h
  simp [World.frozen?, h']
theorem LogAt.same (h : LogAt w p bv sf st sp) (hb : w1.heap[p]? = w.heap[p]?) : LogAt w1 p bv sf st sp := hb.trans h
theorem LogAt.setRow (h : LogAt w p bv sf st sp) (v : Value) : LogAt (w.setCell ⟨p, 0, none⟩ v) p v sf st sp := by
  have h' : w.heap[p]? = some (.cells #[bv, .int .i64 sf, .int .i64 st, .bool sp] 47 (0, 0)) := h
  unfold LogAt World.setCell
  simp [Array.getElem?_modify, h']
theorem LogAt.setSafe (h : LogAt w p bv sf st sp) (x : Int) : LogAt (w.setCell ⟨p, 1, none⟩ (.int .i64 x)) p bv x st sp := by
  have h' : w.heap[p]? = some (.cells #[bv, .int .i64 sf, .int .i64 st, .bool sp] 47 (0, 0)) := h
  unfold LogAt World.setCell
  simp [Array.getElem?_modify, h']
theorem LogAt.setLeft (h : LogAt w p bv sf st sp) (x : Int) : LogAt (w.setCell ⟨p, 2, none⟩ (.int .i64 x)) p bv sf x sp := by
  have h' : w.heap[p]? = some (.cells #[bv, .int .i64 sf, .int .i64 st, .bool sp] 47 (0, 0)) := h
  unfold LogAt World.setCell
  simp [Array.getElem?_modify, h']
theorem LogAt.setStop (h : LogAt w p bv sf st sp) (x : Bool) : LogAt (w.setCell ⟨p, 3, none⟩ (.bool x)) p bv sf st x := by
  have h' : w.heap[p]? = some (.cells #[bv, .int .i64 sf, .int .i64 st, .bool sp] 47 (0, 0)) := h
  unfold LogAt World.setCell
  simp [Array.getElem?_modify, h']
theorem logAt_new (w : World) (bv : Value) (sf st : Int) (sp : Bool) : LogAt (w.alloc (.cells #[bv, .int .i64 sf, .int .i64 st, .bool sp] 47)) w.heap.size bv sf st sp := by
  unfold LogAt World.alloc
  simp
end
/-- A Log: rest: the bytes behind the whole records. -/
structure LgIs (w : World) (p : Nat) (bv : Value) (st : Int) (rest : List Value) (s : Lg) : Prop where
  blk : LogAt w p bv s.safe st s.stop
  row : w.ownsRow 0 5 1 bv s.bytes (recL s.hist ++ rest)
  ne : bv.ownBlock ≠ some p
  half : rest.length ≤ 1
  bytes : s.bytes = s.hist.length * 3 + rest.length
  ends : s.ends = endsN s.hist.length
  left : s.left = leftO st
def LgFoot (p : Nat) (bv : Value) : Nat → Prop := fun k => k = p ∨ bv.ownBlock = some k
def LgRep (w : World) (p : Nat) (s : Lg) (F : Nat → Prop) : Prop := ∃ bv st rest, F = LgFoot p bv ∧ LgIs w p bv st rest s
section
variable {w w1 : World} {p : Nat} {bv : Value} {st : Int} {rest : List Value} {s : Lg} {F G : Nat → Prop}
theorem LgIs.turn (h : LgIs w p bv st rest s) (ht : Turns G w w1) (hG : ∀ k, LgFoot p bv k → ¬ G k) : LgIs w1 p bv st rest s :=
  ⟨h.blk.same (ht.block p h.blk.lt (hG p (.inl rfl))), ht.own h.row fun g hg => hG g (.inr hg), h.ne, h.half, h.bytes, h.ends, h.left⟩
theorem LgIs.later (h : LgIs w p bv st rest s) (hb : Below w.heap.size w w1) : LgIs w1 p bv st rest s := h.turn (Turns.of_below (F := fun _ => False) hb) fun _ _ e => e
theorem lgRep_lt (h : LgRep w p s F) : ∀ k, F k → k < w.heap.size := by
  obtain ⟨bv, st, rest, rfl, h⟩ := h
  rintro k (rfl | hk)
  · exact h.blk.lt
  · exact (h.row.lt k hk).2
theorem lgRep_later (h : LgRep w p s F) (ht : Turns G w w1) (hG : ∀ k, F k → ¬ G k) : LgRep w1 p s F := by
  obtain ⟨bv, st, rest, rfl, h⟩ := h
  exact ⟨bv, st, rest, rfl, h.turn ht hG⟩
/-- Its block alone turns, not its row. -/
theorem LgIs.block {st1 : Int} {sf1 : Nat} {sp1 : Bool} {lf : Option Nat} (h : LgIs w p bv st rest s) (hb : LogAt w1 p bv sf1 st1 sp1) (ht : Turns (fun k => k = p) w w1) (hl : lf = leftO st1) :
    LgIs w1 p bv st1 rest { s with safe := sf1, left := lf, stop := sp1 } :=
  ⟨hb, ht.own h.row fun g hg e => h.ne (by rw [hg, e]), h.ne, h.half, h.bytes, h.ends, hl⟩
end
theorem turns_one (w : World) (p k : Nat) (u : Value) : Turns (fun j => j = p) w (w.setCell ⟨p, k, none⟩ u) := by
  refine Turns.setCell (Turns.refl _ w) ?_ u
  exact .inl rfl
set_option maxHeartbeats 4000000 in
theorem new_lg (w : World) : Calls Tryd.prog 6 #[] w fun e w' => Below w.heap.size w w' ∧ ∃ p F, e = .returned (ptL p) ∧ LgRep w' p lg0 F ∧ ∀ k, F k → w.heap.size ≤ k := by
  go_enter Tryd.func6, Tryd.ntmps6
  go_wp2_with fail
  go_ret
  refine ⟨(Below.refl _ w).alloc (Nat.le_refl _) _, w.heap.size, LgFoot w.heap.size (.slice none 0 0), rfl, ⟨_, -1, [], rfl, logAt_new w (.slice none 0 0) 0 (-1) false, World.ownsRow_nil _ _ _ _, by simp [Value.ownBlock], by simp, rfl, rfl, rfl⟩, fun k hk => ?_⟩
  rcases hk with rfl | hk
  · exact Nat.le_refl _
  · simp [Value.ownBlock] at hk
section
variable {w : World} {p : Nat} {bv : Value} {st : Int} {rest : List Value} {s : Lg}
set_option maxHeartbeats 4000000 in
theorem bytes_lg (h : LgIs w p bv st rest s) : Calls Tryd.prog 7 #[ptL p] w fun e w' => e = .returned (.int .i64 s.bytes) ∧ Below w.heap.size w w' := by
  have c0 := h.blk.row
  obtain ⟨ad, c, rfl, -⟩ := own_slice3 h.row
  unfold ptL
  clear h
  go_enter Tryd.func7, Tryd.ntmps7
  go_wp2_with fail
  go_ret
  exact ⟨rfl, Below.refl _ _⟩
set_option maxHeartbeats 4000000 in
theorem safe_lg (h : LgIs w p bv st rest s) : Calls Tryd.prog 15 #[ptL p] w fun e w' => e = .returned (.int .i64 s.safe) ∧ Below w.heap.size w w' := by
  have c1 := h.blk.safe
  unfold ptL
  clear h
  go_enter Tryd.func15, Tryd.ntmps15
  go_wp2_with fail
  go_ret
  exact ⟨rfl, Below.refl _ _⟩
set_option maxHeartbeats 4000000 in
theorem fail_lg (h : LgIs w p bv st rest s) (n : Int) : Calls Tryd.prog 9 #[ptL p, .int .i64 n] w fun e w' => e = .returned (.tuple #[]) ∧ LgIs w' p bv n rest (failS s n) ∧ Turns (fun k => k = p) w w' := by
  have c2 := h.blk.left
  have f2 := h.blk.thaw 2
  have HH := hid_l h
  unfold ptL
  clear h
  go_enter Tryd.func9, Tryd.ntmps9
  go_wp2_with fail
  go_end0
  exact ⟨rfl, HH.out.block (HH.out.blk.setLeft n) (turns_one _ _ _ _) rfl, turns_one _ _ _ _⟩
/-- What a step makes of it. -/
def stepS (s : Lg) (st : Int) : Lg := { s with stop := decide (st = 0), left := if st = 0 then s.left else lessO s.left }
def stepN (st : Int) : Int := if 0 < st then wrap64 (st - 1) else st
theorem left_zero {st : Int} : leftO st = some 0 ↔ st = 0 := by
  unfold leftO
  by_cases h : st < 0
  · rw [if_pos h]; constructor
    · intro e; cases e
    · intro e; omega
  · rw [if_neg h]
    constructor
    · intro e; injection e with e; omega
    · intro e; subst e; rfl
theorem left_step (st : Int) : (if st = 0 then leftO st else lessO (leftO st)) = leftO (stepN st) := by
  unfold stepN
  by_cases h0 : st = 0
  · rw [if_pos h0, if_neg (by omega)]
  · rw [if_neg h0]
    by_cases h1 : 0 < st
    · rw [if_pos h1]
      rw [show leftO st = some st.toNat by unfold leftO; rw [if_neg (by omega)]]
      show leftO (IntKind.i64.wrap ((st.toNat : Int) - 1)) = _
      rw [Int.toNat_of_nonneg (by omega)]
      rw [show IntKind.i64.wrap (st - 1) = wrap64 (st - 1) by first | rfl | simp only [wrap64, IntKind.wrap_i64]]
    · rw [if_neg h1]
      rw [show leftO st = none by unfold leftO; rw [if_pos (by omega)]]
      rfl
set_option maxHeartbeats 4000000 in
theorem stops_lg (h : LgIs w p bv st rest s) (hs : s.stop = false) : Calls Tryd.prog 22 #[ptL p] w fun e w' => e = .returned (.bool (decide (st = 0))) ∧ LgIs w' p bv (stepN st) rest (stepS s st) ∧ Turns (fun k => k = p) w w' := by
  have c2 := h.blk.left
  have f2 := h.blk.thaw 2
  have c3 := h.blk.stop
  have f3 := h.blk.thaw 3
  have HH := hid_l h
  have HLS : Hid (stepS s st = { s with safe := s.safe, left := leftO (stepN st), stop := decide (st = 0) }) := by
    show stepS s st = _
    unfold stepS
    rw [h.left, left_step]
  rw [HLS.out]
  unfold ptL
  by_cases h1 : 0 < st
  · have hd : decide (st = 0) = false := decide_eq_false (by omega)
    have HN : Hid (stepN st = wrap64 (st - 1)) := by show _ = _; unfold stepN; rw [if_pos h1]
    rw [hd, HN.out]
    have HS : Hid (s.stop = false) := hs
    clear h hs HLS
    go_enter Tryd.func22, Tryd.ntmps22
    go_wp2_with fail
    go_ret
    refine ⟨rfl, HH.out.block ?_ (turns_one _ _ _ _) rfl, turns_one _ _ _ _⟩
    have := HH.out.blk.setLeft (wrap64 (st - 1))
    rw [HS.out] at this
    exact this
  · have HN : Hid (stepN st = st) := by show _ = _; unfold stepN; rw [if_neg h1]
    rw [HN.out]
    by_cases h0 : st = 0
    · subst h0
      clear h hs HLS
      go_enter Tryd.func22, Tryd.ntmps22
      go_wp2_with fail
      go_ret
      exact ⟨rfl, HH.out.block (HH.out.blk.setStop true) (turns_one _ _ _ _) rfl, turns_one _ _ _ _⟩
    · have hd : decide (st = 0) = false := decide_eq_false h0
      have hd2 : (st == 0) = false := by simpa using h0
      rw [hd]
      clear h hs HLS
      go_enter Tryd.func22, Tryd.ntmps22
      go_wp2_with fail
      go_ret
      exact ⟨rfl, HH.out.block (HH.out.blk.setStop false) (turns_one _ _ _ _) rfl, turns_one _ _ _ _⟩
end
end Go.Proofs.YtggieffpehbfaaaDoor
