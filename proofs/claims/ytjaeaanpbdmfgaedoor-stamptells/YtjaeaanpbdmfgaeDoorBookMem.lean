/-
  PROVED HERE: how package stamp's book (with leave or not, the greatest numbers that read and wrote each item, what is told, who is aborted) lies in memory that was made since a world: a block, a row, a map, all apart; what becomes of it when one of its parts is set. Plain facts: who is aborted is told among those that were, once.
  Conditions: none.
-/
import Derived.Test.YtjaeaanpbdmfgaeDoorStampPlain
import Derived.Test.YtjaeaanpbdmfgaeDoorVictMap
import Derived.Test.YtjaeaanpbdmfgaeDoorAppendApart
namespace Go.Proofs.YtjaeaanpbdmfgaeDoor
open Go.RowKit

/-- Who is aborted is told among those that were, once. -/
def FitS (s : Stm) : Prop := (∀ t, s.out t = decide (t ∈ s.vict)) ∧ s.vict.Pairwise (· ≠ ·) ∧ ∀ v ∈ s.vict, 1 ≤ v ∧ v ≤ 6
theorem fitS0 : FitS stm0 := ⟨fun t => rfl, List.Pairwise.nil, fun v h => by cases h⟩
theorem FitS.gone {s : Stm} {t : Int} (h : FitS s) (ho : s.out t = false) (h1 : 1 ≤ t) (h6 : t ≤ 6) : FitS (goneS s t) := by
  obtain ⟨a, b, c⟩ := h
  have hn : t ∉ s.vict := by have := a t; rw [ho] at this; exact of_decide_eq_false this.symm
  refine ⟨fun x => ?_, ?_, fun v hv => ?_⟩
  · show setF s.out t true x = decide (x ∈ s.vict ++ [t])
    by_cases e : x = t
    · subst e; rw [setF_same]; simp
    · rw [setF_other _ _ e, a x]; simp [e]
  · show (s.vict ++ [t]).Pairwise _
    refine List.pairwise_append.2 ⟨b, List.pairwise_singleton _ _, fun x hx y hy e => ?_⟩
    rw [List.mem_singleton.1 hy] at e
    exact hn (e ▸ hx)
  · rcases List.mem_append.1 hv with hv | hv
    · exact c v hv
    · rw [List.mem_singleton.1 hv]; exact ⟨h1, h6⟩
theorem fit_step {leave : Bool} {s : Stm} {o : Op3} (h : FitS s) (hop : isOpB o = true) : FitS (stepS leave s o) := by
  obtain ⟨h1, h6⟩ := isOp_range hop
  unfold stepS
  split
  · exact h
  · rename_i hout
    split
    · exact h.gone (by simpa using hout) h1 h6
    · split
      · exact h
      · split
        · split
          · exact h
          · exact h
        · exact h
theorem fit_all (leave : Bool) (l : List Op3) (hop : ∀ o ∈ l, isOpB o = true) : ∀ k, k ≤ l.length → FitS (stampR leave (l.take k)) := by
  intro k
  induction k with
  | zero => intro _; exact fitS0
  | succ k ih =>
    intro hk
    have e : stampR leave (l.take (k + 1)) = stepS leave (stampR leave (l.take k)) l[k] := by
      unfold stampR
      rw [List.take_succ_eq_append_getElem (by omega), List.foldl_append]
      rfl
    rw [e]
    exact fit_step (ih (by omega)) (hop _ (List.getElem_mem _))

def bkPart (leave : Bool) (rd wr : Int → Int) (tv : Value) (A k : Nat) : Value :=
  if k = 0 then .bool leave else if k < 15 then (if (k - 1) % 2 = 0 then .int .i64 (rd (((k - 1) / 2 : Nat) : Int)) else .int .i64 (wr (((k - 1) / 2 : Nat) : Int))) else if k = 15 then tv else .map (some A)
def cells17 (leave : Bool) (rd wr : Int → Int) (tv : Value) (A : Nat) : Array Value := ((List.range 17).map (bkPart leave rd wr tv A)).toArray
section
variable {leave : Bool} {rd wr rd' wr' : Int → Int} {tv tv' u : Value} {A p : Nat}
theorem cells17_size : (cells17 leave rd wr tv A).size = 17 := by simp [cells17]
theorem cells17_at (k : Nat) (h : k < 17) : (cells17 leave rd wr tv A)[k]? = some (bkPart leave rd wr tv A k) := by simp [cells17, h]
theorem cells17_ext (hp : p < 17) (hh : bkPart leave rd' wr' tv' A p = u) (he : ∀ k, k < 17 → k ≠ p → bkPart leave rd' wr' tv' A k = bkPart leave rd wr tv A k) : (cells17 leave rd wr tv A).setIfInBounds p u = cells17 leave rd' wr' tv' A := by
  refine Array.ext_getElem? fun j => ?_
  by_cases hj : j < 17
  · rw [cells17_at j hj, Array.getElem?_setIfInBounds, cells17_size, cells17_at j hj]
    by_cases e : p = j
    · subst e; rw [if_pos rfl, if_pos hp, hh]
    · rw [if_neg e, he j hj (fun h => e h.symm)]
  · rw [Array.getElem?_eq_none (by simp [cells17_size]; omega), Array.getElem?_eq_none (by simp [cells17_size]; omega)]
theorem bkPart_rd {x : Nat} (hx : x < 7) : bkPart leave rd wr tv A (1 + x * 2) = .int .i64 (rd (x : Int)) := by
  unfold bkPart
  rw [if_neg (by omega), if_pos (by omega), if_pos (by omega), show (1 + x * 2 - 1) / 2 = x by omega]
theorem bkPart_wr {x : Nat} (hx : x < 7) : bkPart leave rd wr tv A (1 + x * 2 + 1) = .int .i64 (wr (x : Int)) := by
  unfold bkPart
  rw [if_neg (by omega), if_pos (by omega), if_neg (by omega), show (1 + x * 2 + 1 - 1) / 2 = x by omega]
theorem cells17_rd {x : Nat} (hx : x < 7) (y : Int) : (cells17 leave rd wr tv A).setIfInBounds (1 + x * 2) (.int .i64 y) = cells17 leave (setF rd (x : Int) y) wr tv A := by
  refine cells17_ext (by omega) (by rw [bkPart_rd hx, setF_same]) fun k hk hne => ?_
  unfold bkPart
  by_cases h0 : k = 0
  · rw [if_pos h0, if_pos h0]
  · by_cases h1 : k < 15
    · by_cases h2 : (k - 1) % 2 = 0
      · rw [if_neg h0, if_neg h0, if_pos h1, if_pos h1, if_pos h2, if_pos h2, setF_other _ _ (by omega)]
      · rw [if_neg h0, if_neg h0, if_pos h1, if_pos h1, if_neg h2, if_neg h2]
    · rw [if_neg h0, if_neg h0, if_neg h1, if_neg h1]
theorem cells17_wr {x : Nat} (hx : x < 7) (y : Int) : (cells17 leave rd wr tv A).setIfInBounds (1 + x * 2 + 1) (.int .i64 y) = cells17 leave rd (setF wr (x : Int) y) tv A := by
  refine cells17_ext (by omega) (by rw [bkPart_wr hx, setF_same]) fun k hk hne => ?_
  unfold bkPart
  by_cases h0 : k = 0
  · rw [if_pos h0, if_pos h0]
  · by_cases h1 : k < 15
    · by_cases h2 : (k - 1) % 2 = 0
      · rw [if_neg h0, if_neg h0, if_pos h1, if_pos h1, if_pos h2, if_pos h2]
      · rw [if_neg h0, if_neg h0, if_pos h1, if_pos h1, if_neg h2, if_neg h2, setF_other _ _ (by omega)]
    · rw [if_neg h0, if_neg h0, if_neg h1, if_neg h1]
theorem cells17_told : (cells17 leave rd wr tv A).setIfInBounds 15 u = cells17 leave rd wr u A := by
  refine cells17_ext (by omega) (by unfold bkPart; rw [if_neg (by omega), if_neg (by omega), if_pos rfl]) fun k hk hne => ?_
  unfold bkPart
  by_cases h0 : k = 0
  · rw [if_pos h0, if_pos h0]
  · by_cases h1 : k < 15
    · rw [if_neg h0, if_neg h0, if_pos h1, if_pos h1]
    · rw [if_neg h0, if_neg h0, if_neg h1, if_neg h1, if_neg hne, if_neg hne]
end
/-- A book that was made since a world. -/
structure BookAt (w0 w : World) (R A : Nat) (leave : Bool) (s : Stm) (tv : Value) : Prop where
  blk : w.heap[R]? = some (.cells (cells17 leave s.rd s.wr tv A) 101 (0, 0))
  told : w.ownsRow w0.heap.size 82 3 tv s.told.length (flat s.told)
  outs : MapIs w A (victF s.vict) s.vict.length
  old : Below w0.heap.size w0 w
  newR : w0.heap.size ≤ R
  newA : w0.heap.size ≤ A
  hRA : R ≠ A
  tR : ¬ tv.ownBlock = some R
  tA : ¬ tv.ownBlock = some A
section
variable {w0 w w1 : World} {R A : Nat} {leave : Bool} {s : Stm} {tv : Value}
theorem BookAt.lt (h : BookAt w0 w R A leave s tv) : R < w.heap.size := (Array.getElem?_eq_some_iff.1 h.blk).1
theorem BookAt.cell (h : BookAt w0 w R A leave s tv) {k : Nat} (hk : k < 17) : w.cell? ⟨R, k, none⟩ = some (bkPart leave s.rd s.wr tv A k) := by rw [cell_of_row w R _ _ _ _ h.blk, cells17_at k hk]
theorem BookAt.c0 (h : BookAt w0 w R A leave s tv) : w.cell? ⟨R, 0, none⟩ = some (.bool leave) := h.cell (by omega)
theorem BookAt.cr (h : BookAt w0 w R A leave s tv) {x : Nat} (hx : x < 7) : w.cell? ⟨R, 1 + x * 2, none⟩ = some (.int .i64 (s.rd (x : Int))) := by rw [h.cell (by omega), bkPart_rd hx]
theorem BookAt.cw (h : BookAt w0 w R A leave s tv) {x : Nat} (hx : x < 7) : w.cell? ⟨R, 1 + x * 2 + 1, none⟩ = some (.int .i64 (s.wr (x : Int))) := by rw [h.cell (by omega), bkPart_wr hx]
theorem BookAt.c15 (h : BookAt w0 w R A leave s tv) : w.cell? ⟨R, 15, none⟩ = some tv := h.cell (by omega)
theorem BookAt.c16 (h : BookAt w0 w R A leave s tv) : w.cell? ⟨R, 16, none⟩ = some (.map (some A)) := h.cell (by omega)
theorem BookAt.thaw (h : BookAt w0 w R A leave s tv) (k : Nat) : w.frozen? ⟨R, k, none⟩ = false := by simp [World.frozen?, h.blk]
theorem BookAt.later (h : BookAt w0 w R A leave s tv) (hb : Below w.heap.size w w1) : BookAt w0 w1 R A leave s tv :=
  have ht : Turns (fun _ => False) w w1 := Turns.of_below hb
  ⟨(hb.block R h.lt).trans h.blk, ht.own h.told (fun _ _ hf => hf), h.outs.turn ht (fun hf => hf), h.old.trans (hb.mono h.old.size), h.newR, h.newA, h.hRA, h.tR, h.tA⟩
theorem BookAt.cellT (h : BookAt w0 w R A leave s tv) {q : Nat} {u : Value} {s' : Stm} {rd wr : Int → Int} (hc : (cells17 leave s.rd s.wr tv A).setIfInBounds q u = cells17 leave rd wr tv A) (hs : s' = { s with rd := rd, wr := wr }) : BookAt w0 (w.setCell ⟨R, q, none⟩ u) R A leave s' tv := by
  subst hs
  have ht : Turns (fun k => k = R) w (w.setCell ⟨R, q, none⟩ u) := by
    refine Turns.setCell (Turns.refl _ w) ?_ _
    exact .inl rfl
  refine ⟨by rw [block_set h.blk, hc], ht.own h.told (fun k hk e => h.tR (e ▸ hk)), h.outs.turn ht (fun e => h.hRA e.symm), h.old.setCell h.newR _, h.newR, h.newA, h.hRA, h.tR, h.tA⟩
theorem BookAt.setRd (h : BookAt w0 w R A leave s tv) {x : Nat} (hx : x < 7) (y : Int) : BookAt w0 (w.setCell ⟨R, 1 + x * 2, none⟩ (.int .i64 y)) R A leave { s with rd := setF s.rd (x : Int) y } tv := h.cellT (cells17_rd hx y) rfl
theorem BookAt.setWr (h : BookAt w0 w R A leave s tv) {x : Nat} (hx : x < 7) (y : Int) : BookAt w0 (w.setCell ⟨R, 1 + x * 2 + 1, none⟩ (.int .i64 y)) R A leave { s with wr := setF s.wr (x : Int) y } tv := h.cellT (cells17_wr hx y) rfl
/-- Something more is told. -/
theorem BookAt.push {v : Value} {x : Op3} (h : BookAt w0 w R A leave s tv) (ht : Turns (fun k => tv.ownBlock = some k) w w1) (hv : w1.ownsRow w0.heap.size 82 3 v (s.told.length + 1) (flat s.told ++ flat [x])) (hap : ∀ q, v.ownBlock = some q → tv.ownBlock = some q ∨ w.heap.size ≤ q) :
    w1.cell? ⟨R, 15, none⟩ = some tv ∧ w1.frozen? ⟨R, 15, none⟩ = false ∧ BookAt w0 (w1.setCell ⟨R, 15, none⟩ v) R A leave { s with told := s.told ++ [x] } v := by
  have hb1 : w1.heap[R]? = some (.cells (cells17 leave s.rd s.wr tv A) 101 (0, 0)) := (ht.block R h.lt h.tR).trans h.blk
  have hR : ¬ v.ownBlock = some R := fun e => by
    rcases hap R e with h1 | h1
    · exact h.tR h1
    · have := h.lt; omega
  have hA : ¬ v.ownBlock = some A := fun e => by
    rcases hap A e with h1 | h1
    · exact h.tA h1
    · have := h.outs.lt; omega
  have hset : Turns (fun k => k = R) w1 (w1.setCell ⟨R, 15, none⟩ v) := by
    refine Turns.setCell (Turns.refl _ w1) ?_ _
    exact .inl rfl
  refine ⟨by rw [cell_of_row w1 R _ _ _ _ hb1, cells17_at 15 (by omega)]; rfl, by simp [World.frozen?, hb1], ⟨?_, ?_, ?_, ?_, h.newR, h.newA, h.hRA, hR, hA⟩⟩
  · rw [block_set hb1, cells17_told]
  · show World.ownsRow _ _ _ _ v (s.told ++ [x]).length (flat (s.told ++ [x]))
    rw [List.length_append, flat_append]
    exact hset.own hv fun q hq e => hR (e ▸ hq)
  · exact (h.outs.turn ht h.tA).turn hset (fun e => h.hRA e.symm)
  · refine (h.old.trans (ht.below h.old.size fun k hk hf => ?_)).setCell h.newR _
    have := (h.told.lt k hf).1
    omega
/-- An append to what is told, in a region that draws. -/
theorem BookAt.tellD {w2 : World} {x : Op3} {ob : Obj} {ad : Option Addr} {n q : Nat} {v2 : Value} (h : BookAt w0 w R A leave s tv) (e : tv = .slice ad n q) (hn : s.told.length = n) (hown : w2.ownsRow w0.heap.size 82 3 v2 (n + 1) (flat s.told ++ flat [x])) (hgr : (w.drew.alloc ob).grownBy w2 (Value.slice ad n q).ownBlock) (hap : ∀ k, v2.ownBlock = some k → (Value.slice ad n q).ownBlock = some k ∨ (w.drew.alloc ob).heap.size ≤ k) :
    w2.cell? ⟨R, 15, none⟩ = some (.slice ad n q) ∧ w2.frozen? ⟨R, 15, none⟩ = false ∧ BookAt w0 (w2.setCell ⟨R, 15, none⟩ v2) R A leave { s with told := s.told ++ [x] } v2 := by
  have htu : Turns (fun k => tv.ownBlock = some k) w w2 := by rw [e]; exact turn_grown hgr
  rw [← e]
  exact h.push htu (by rw [hn]; exact hown) fun k hk => by
    rcases apart_later hap k hk with h1 | h1
    · exact .inl (by rw [e]; exact h1)
    · exact .inr h1
/-- One more is aborted. -/
theorem BookAt.setOuts {l : List Int} {f : Int → Bool} (h : BookAt w0 w R A leave s tv) (hp : MapIs w1 A (victF l) l.length) (ht : Turns (fun k => k = A) w w1) : BookAt w0 w1 R A leave { s with vict := l, out := f } tv :=
  ⟨(ht.block R h.lt h.hRA).trans h.blk, ht.own h.told (fun k hk e => h.tA (e ▸ hk)), hp, h.old.trans (ht.below h.old.size fun k hk e => by have := h.newA; omega), h.newR, h.newA, h.hRA, h.tR, h.tA⟩
end
theorem book_made (w0 w : World) (hb : Below w0.heap.size w0 w) (leave : Bool) : BookAt w0 ((w.alloc (.map #[] 0)).alloc (.cells (cells17 leave (fun _ => 0) (fun _ => 0) (.slice none 0 0) w.heap.size) 101)) (w.heap.size + 1) w.heap.size leave stm0 (.slice none 0 0) := by
  obtain ⟨W1, hW1⟩ : ∃ W, W = w.alloc (.map #[] 0) := ⟨_, rfl⟩
  obtain ⟨W2, hW2⟩ : ∃ W, W = W1.alloc (.cells (cells17 leave (fun _ => 0) (fun _ => 0) (.slice none 0 0) w.heap.size) 101) := ⟨_, rfl⟩
  have s1 : W1.heap.size = w.heap.size + 1 := by rw [hW1]; simp
  have t1 : Turns (fun _ => False) w W1 := by rw [hW1]; exact (Turns.refl _ w).alloc _
  have t2 : Turns (fun _ => False) W1 W2 := by rw [hW2]; exact (Turns.refl _ W1).alloc _
  have m1 : MapIs W1 w.heap.size (fun _ => none) 0 := by rw [hW1]; exact mapIs_made w
  have hs := hb.size
  rw [← hW1, ← hW2]
  refine ⟨?_, World.ownsRow_nil _ _ _ _, m1.turn t2 (fun hf => hf), hb.trans ((t1.trans t2 fun _ _ hf => hf).below hs fun _ _ hf => hf), by omega, hs, by omega, by simp [Value.ownBlock], by simp [Value.ownBlock]⟩
  rw [hW2, ← s1]
  exact heap_alloc_new W1 _
theorem cells17_lit (leave : Bool) (A : Nat) : cells17 leave (fun _ => 0) (fun _ => 0) (.slice none 0 0) A = #[.bool leave, .int .i64 0, .int .i64 0, .int .i64 0, .int .i64 0, .int .i64 0, .int .i64 0, .int .i64 0, .int .i64 0, .int .i64 0, .int .i64 0, .int .i64 0, .int .i64 0, .int .i64 0, .int .i64 0, .slice none 0 0, .map (some A)] := rfl
end Go.Proofs.YtjaeaanpbdmfgaeDoor
