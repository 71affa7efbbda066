/-
  PROVED HERE: how package stamp's book (with leave or not, the greatest numbers that read and wrote each item, what is told, who is aborted) lies in memory that was made since a world: a block, a row, a map, all apart; what becomes of it when one of its parts is set. Plain facts: who is aborted is told among those that were, once.
  Conditions: none.
  PROVED HERE: package stamp's book, its methods tell, abort, read, write and come: by one op it goes on as chapter 10, as a function on lists, has it. Memory below the book stays as it was.
  Conditions: the op is one; what is told is short; who is aborted is told among those that were, once.
-/
import Derived.Test.YtccjognnehoodahGreatMgag
import Derived.Test.YtccjognnehoodahGreatMgbh
import Derived.Test.YtccjognnehoodahGreatMgax
import Derived.Test.YtccjognnehoodahGreatMgab
import Derived.Deep.Cut
import Derived.Laws.Small
namespace Go.Proofs.YtccjognnehoodahGreat
open Go.RowKit

/-- Who is aborted is told among those that were, once. -/
def FitS (s : Stm) : Prop := (∀ t, s.out t = decide (t ∈ s.vict)) ∧ s.vict.Pairwise (· ≠ ·) ∧ ∀ v ∈ s.vict, 1 ≤ v ∧ v ≤ 6
theorem fitS0 : FitS stm0 := ⟨fun t => rfl, List.Pairwise.nil, fun v h => by cases h⟩
theorem FitS.gone {s : Stm} {t : Int} (h : FitS s) (ho : s.out t = false) (h1 : 1 ≤ t) (h6 : t ≤ 6) : FitS (goneS s t) := by
  obtain ⟨a, b, c⟩ := h
  have hn : t ∉ s.vict := by have := a t; rw [ho] at this; exact of_decide_eq_false this.symm
  refine ⟨fun x => ?_, ?_, fun v hv => ?_⟩
  · show setF s.out t true x = decide (x ∈ s.vict ++ [t])
    by_cases e : x = t
    · subst e; rw [setF_same]; simp
    · rw [setF_other _ _ e, a x]; simp [e]
  · show (s.vict ++ [t]).Pairwise _
    refine List.pairwise_append.2 ⟨b, List.pairwise_singleton _ _, fun x hx y hy e => ?_⟩
    rw [List.mem_singleton.1 hy] at e
    exact hn (e ▸ hx)
  · rcases List.mem_append.1 hv with hv | hv
    · exact c v hv
    · rw [List.mem_singleton.1 hv]; exact ⟨h1, h6⟩
theorem fit_step {leave : Bool} {s : Stm} {o : Op3} (h : FitS s) (hop : isOpB o = true) : FitS (stepS leave s o) := by
  obtain ⟨h1, h6⟩ := isOp_range hop
  unfold stepS
  split
  · exact h
  · rename_i hout
    split
    · exact h.gone (by simpa using hout) h1 h6
    · split
      · exact h
      · split
        · split
          · exact h
          · exact h
        · exact h
theorem fit_all (leave : Bool) (l : List Op3) (hop : ∀ o ∈ l, isOpB o = true) : ∀ k, k ≤ l.length → FitS (stampR leave (l.take k)) := by
  intro k
  induction k with
  | zero => intro _; exact fitS0
  | succ k ih =>
    intro hk
    have e : stampR leave (l.take (k + 1)) = stepS leave (stampR leave (l.take k)) l[k] := by
      unfold stampR
      rw [List.take_succ_eq_append_getElem (by omega), List.foldl_append]
      rfl
    rw [e]
    exact fit_step (ih (by omega)) (hop _ (List.getElem_mem _))

def bkPart (leave : Bool) (rd wr : Int → Int) (tv : Value) (A k : Nat) : Value :=
  if k = 0 then .bool leave else if k < 15 then (if (k - 1) % 2 = 0 then .int .i64 (rd (((k - 1) / 2 : Nat) : Int)) else .int .i64 (wr (((k - 1) / 2 : Nat) : Int))) else if k = 15 then tv else .map (some A)
def cells17 (leave : Bool) (rd wr : Int → Int) (tv : Value) (A : Nat) : Array Value := ((List.range 17).map (bkPart leave rd wr tv A)).toArray
section
variable {leave : Bool} {rd wr rd' wr' : Int → Int} {tv tv' u : Value} {A p : Nat}
theorem cells17_size : (cells17 leave rd wr tv A).size = 17 := by simp [cells17]
theorem cells17_at (k : Nat) (h : k < 17) : (cells17 leave rd wr tv A)[k]? = some (bkPart leave rd wr tv A k) := by simp [cells17, h]
theorem cells17_ext (hp : p < 17) (hh : bkPart leave rd' wr' tv' A p = u) (he : ∀ k, k < 17 → k ≠ p → bkPart leave rd' wr' tv' A k = bkPart leave rd wr tv A k) : (cells17 leave rd wr tv A).setIfInBounds p u = cells17 leave rd' wr' tv' A := by
  refine Array.ext_getElem? fun j => ?_
  by_cases hj : j < 17
  · rw [cells17_at j hj, Array.getElem?_setIfInBounds, cells17_size, cells17_at j hj]
    by_cases e : p = j
    · subst e; rw [if_pos rfl, if_pos hp, hh]
    · rw [if_neg e, he j hj (fun h => e h.symm)]
  · rw [Array.getElem?_eq_none (by simp [cells17_size]; omega), Array.getElem?_eq_none (by simp [cells17_size]; omega)]
theorem bkPart_rd {x : Nat} (hx : x < 7) : bkPart leave rd wr tv A (1 + x * 2) = .int .i64 (rd (x : Int)) := by
  unfold bkPart
  rw [if_neg (by omega), if_pos (by omega), if_pos (by omega), show (1 + x * 2 - 1) / 2 = x by omega]
theorem bkPart_wr {x : Nat} (hx : x < 7) : bkPart leave rd wr tv A (1 + x * 2 + 1) = .int .i64 (wr (x : Int)) := by
  unfold bkPart
  rw [if_neg (by omega), if_pos (by omega), if_neg (by omega), show (1 + x * 2 + 1 - 1) / 2 = x by omega]
theorem cells17_rd {x : Nat} (hx : x < 7) (y : Int) : (cells17 leave rd wr tv A).setIfInBounds (1 + x * 2) (.int .i64 y) = cells17 leave (setF rd (x : Int) y) wr tv A := by
  refine cells17_ext (by omega) (by rw [bkPart_rd hx, setF_same]) fun k hk hne => ?_
  unfold bkPart
  by_cases h0 : k = 0
  · rw [if_pos h0, if_pos h0]
  · by_cases h1 : k < 15
    · by_cases h2 : (k - 1) % 2 = 0
      · rw [if_neg h0, if_neg h0, if_pos h1, if_pos h1, if_pos h2, if_pos h2, setF_other _ _ (by omega)]
      · rw [if_neg h0, if_neg h0, if_pos h1, if_pos h1, if_neg h2, if_neg h2]
    · rw [if_neg h0, if_neg h0, if_neg h1, if_neg h1]
theorem cells17_wr {x : Nat} (hx : x < 7) (y : Int) : (cells17 leave rd wr tv A).setIfInBounds (1 + x * 2 + 1) (.int .i64 y) = cells17 leave rd (setF wr (x : Int) y) tv A := by
  refine cells17_ext (by omega) (by rw [bkPart_wr hx, setF_same]) fun k hk hne => ?_
  unfold bkPart
  by_cases h0 : k = 0
  · rw [if_pos h0, if_pos h0]
  · by_cases h1 : k < 15
    · by_cases h2 : (k - 1) % 2 = 0
      · rw [if_neg h0, if_neg h0, if_pos h1, if_pos h1, if_pos h2, if_pos h2]
      · rw [if_neg h0, if_neg h0, if_pos h1, if_pos h1, if_neg h2, if_neg h2, setF_other _ _ (by omega)]
    · rw [if_neg h0, if_neg h0, if_neg h1, if_neg h1]
theorem cells17_told : (cells17 leave rd wr tv A).setIfInBounds 15 u = cells17 leave rd wr u A := by
  refine cells17_ext (by omega) (by unfold bkPart; rw [if_neg (by omega), if_neg (by omega), if_pos rfl]) fun k hk hne => ?_
  unfold bkPart
  by_cases h0 : k = 0
  · rw [if_pos h0, if_pos h0]
  · by_cases h1 : k < 15
    · rw [if_neg h0, if_neg h0, if_pos h1, if_pos h1]
    · rw [if_neg h0, if_neg h0, if_neg h1, if_neg h1, if_neg hne, if_neg hne]
end
/-- A book that was made since a world. -/
structure BookAt (w0 w : World) (R A : Nat) (leave : Bool) (s : Stm) (tv : Value) : Prop where
  blk : w.heap[R]? = some (.cells (cells17 leave s.rd s.wr tv A) 83 (0, 0))
  told : w.ownsRow w0.heap.size 51 3 tv s.told.length (flat s.told)
  outs : MapIs w A (victF s.vict) s.vict.length
  old : Below w0.heap.size w0 w
  newR : w0.heap.size ≤ R
  newA : w0.heap.size ≤ A
  hRA : R ≠ A
  tR : ¬ tv.ownBlock = some R
  tA : ¬ tv.ownBlock = some A
section
variable {w0 w w1 : World} {R A : Nat} {leave : Bool} {s : Stm} {tv : Value}
theorem BookAt.lt (h : BookAt w0 w R A leave s tv) : R < w.heap.size := (Array.getElem?_eq_some_iff.1 h.blk).1
theorem BookAt.cell (h : BookAt w0 w R A leave s tv) {k : Nat} (hk : k < 17) : w.cell? ⟨R, k, none⟩ = some (bkPart leave s.rd s.wr tv A k) := by rw [cell_of_row w R _ _ _ _ h.blk, cells17_at k hk]
theorem BookAt.c0 (h : BookAt w0 w R A leave s tv) : w.cell? ⟨R, 0, none⟩ = some (.bool leave) := h.cell (by omega)
theorem BookAt.cr (h : BookAt w0 w R A leave s tv) {x : Nat} (hx : x < 7) : w.cell? ⟨R, 1 + x * 2, none⟩ = some (.int .i64 (s.rd (x : Int))) := by rw [h.cell (by omega), bkPart_rd hx]
theorem BookAt.cw (h : BookAt w0 w R A leave s tv) {x : Nat} (hx : x < 7) : w.cell? ⟨R, 1 + x * 2 + 1, none⟩ = some (.int .i64 (s.wr (x : Int))) := by rw [h.cell (by omega), bkPart_wr hx]
theorem BookAt.c15 (h : BookAt w0 w R A leave s tv) : w.cell? ⟨R, 15, none⟩ = some tv := h.cell (by omega)
theorem BookAt.c16 (h : BookAt w0 w R A leave s tv) : w.cell? ⟨R, 16, none⟩ = some (.map (some A)) := h.cell (by omega)
theorem BookAt.thaw (h : BookAt w0 w R A leave s tv) (k : Nat) : w.frozen? ⟨R, k, none⟩ = false := by simp [World.frozen?, h.blk]
theorem BookAt.later (h : BookAt w0 w R A leave s tv) (hb : Below w.heap.size w w1) : BookAt w0 w1 R A leave s tv :=
  have ht : Turns (fun _ => False) w w1 := Turns.of_below hb
  ⟨(hb.block R h.lt).trans h.blk, ht.own h.told (fun _ _ hf => hf), h.outs.turn ht (fun hf => hf), h.old.trans (hb.mono h.old.size), h.newR, h.newA, h.hRA, h.tR, h.tA⟩
theorem BookAt.cellT (h : BookAt w0 w R A leave s tv) {q : Nat} {u : Value} {s' : Stm} {rd wr : Int → Int} (hc : (cells17 leave s.rd s.wr tv A).setIfInBounds q u = cells17 leave rd wr tv A) (hs : s' = { s with rd := rd, wr := wr }) : BookAt w0 (w.setCell ⟨R, q, none⟩ u) R A leave s' tv := by
  subst hs
  have ht : Turns (fun k => k = R) w (w.setCell ⟨R, q, none⟩ u) := by
    refine Turns.setCell (Turns.refl _ w) ?_ _
    exact .inl rfl
  refine ⟨by rw [block_set h.blk, hc], ht.own h.told (fun k hk e => h.tR (e ▸ hk)), h.outs.turn ht (fun e => h.hRA e.symm), h.old.setCell h.newR _, h.newR, h.newA, h.hRA, h.tR, h.tA⟩
theorem BookAt.setRd (h : BookAt w0 w R A leave s tv) {x : Nat} (hx : x < 7) (y : Int) : BookAt w0 (w.setCell ⟨R, 1 + x * 2, none⟩ (.int .i64 y)) R A leave { s with rd := setF s.rd (x : Int) y } tv := h.cellT (cells17_rd hx y) rfl
theorem BookAt.setWr (h : BookAt w0 w R A leave s tv) {x : Nat} (hx : x < 7) (y : Int) : BookAt w0 (w.setCell ⟨R, 1 + x * 2 + 1, none⟩ (.int .i64 y)) R A leave { s with wr := setF s.wr (x : Int) y } tv := h.cellT (cells17_wr hx y) rfl
/-- Something more is told. -/
theorem BookAt.push {v : Value} {x : Op3} (h : BookAt w0 w R A leave s tv) (ht : Turns (fun k => tv.ownBlock = some k) w w1) (hv : w1.ownsRow w0.heap.size 51 3 v (s.told.length + 1) (flat s.told ++ flat [x])) (hap : ∀ q, v.ownBlock = some q → tv.ownBlock = some q ∨ w.heap.size ≤ q) :
    w1.cell? ⟨R, 15, none⟩ = some tv ∧ w1.frozen? ⟨R, 15, none⟩ = false ∧ BookAt w0 (w1.setCell ⟨R, 15, none⟩ v) R A leave { s with told := s.told ++ [x] } v := by
  have hb1 : w1.heap[R]? = some (.cells (cells17 leave s.rd s.wr tv A) 83 (0, 0)) := (ht.block R h.lt h.tR).trans h.blk
  have hR : ¬ v.ownBlock = some R := fun e => by
    rcases hap R e with h1 | h1
    · exact h.tR h1
    · have := h.lt; omega
  have hA : ¬ v.ownBlock = some A := fun e => by
    rcases hap A e with h1 | h1
    · exact h.tA h1
    · have := h.outs.lt; omega
  have hset : Turns (fun k => k = R) w1 (w1.setCell ⟨R, 15, none⟩ v) := by
    refine Turns.setCell (Turns.refl _ w1) ?_ _
    exact .inl rfl
  refine ⟨by rw [cell_of_row w1 R _ _ _ _ hb1, cells17_at 15 (by omega)]; rfl, by simp [World.frozen?, hb1], ⟨?_, ?_, ?_, ?_, h.newR, h.newA, h.hRA, hR, hA⟩⟩
  · rw [block_set hb1, cells17_told]
  · show World.ownsRow _ _ _ _ v (s.told ++ [x]).length (flat (s.told ++ [x]))
    rw [List.length_append, flat_append]
    exact hset.own hv fun q hq e => hR (e ▸ hq)
  · exact (h.outs.turn ht h.tA).turn hset (fun e => h.hRA e.symm)
  · refine (h.old.trans (ht.below h.old.size fun k hk hf => ?_)).setCell h.newR _
    have := (h.told.lt k hf).1
    omega
/-- An append to what is told, in a region that draws. -/
theorem BookAt.tellD {w2 : World} {x : Op3} {ob : Obj} {ad : Option Addr} {n q : Nat} {v2 : Value} (h : BookAt w0 w R A leave s tv) (e : tv = .slice ad n q) (hn : s.told.length = n) (hown : w2.ownsRow w0.heap.size 51 3 v2 (n + 1) (flat s.told ++ flat [x])) (hgr : (w.drew.alloc ob).grownBy w2 (Value.slice ad n q).ownBlock) (hap : ∀ k, v2.ownBlock = some k → (Value.slice ad n q).ownBlock = some k ∨ (w.drew.alloc ob).heap.size ≤ k) :
    w2.cell? ⟨R, 15, none⟩ = some (.slice ad n q) ∧ w2.frozen? ⟨R, 15, none⟩ = false ∧ BookAt w0 (w2.setCell ⟨R, 15, none⟩ v2) R A leave { s with told := s.told ++ [x] } v2 := by
  have htu : Turns (fun k => tv.ownBlock = some k) w w2 := by rw [e]; exact turn_grown hgr
  rw [← e]
  exact h.push htu (by rw [hn]; exact hown) fun k hk => by
    rcases apart_later hap k hk with h1 | h1
    · exact .inl (by rw [e]; exact h1)
    · exact .inr h1
/-- One more is aborted. -/
theorem BookAt.setOuts {l : List Int} {f : Int → Bool} (h : BookAt w0 w R A leave s tv) (hp : MapIs w1 A (victF l) l.length) (ht : Turns (fun k => k = A) w w1) : BookAt w0 w1 R A leave { s with vict := l, out := f } tv :=
  ⟨(ht.block R h.lt h.hRA).trans h.blk, ht.own h.told (fun k hk e => h.tA (e ▸ hk)), hp, h.old.trans (ht.below h.old.size fun k hk e => by have := h.newA; omega), h.newR, h.newA, h.hRA, h.tR, h.tA⟩
end
theorem book_made (w0 w : World) (hb : Below w0.heap.size w0 w) (leave : Bool) : BookAt w0 ((w.alloc (.map #[] 0)).alloc (.cells (cells17 leave (fun _ => 0) (fun _ => 0) (.slice none 0 0) w.heap.size) 83)) (w.heap.size + 1) w.heap.size leave stm0 (.slice none 0 0) := by
  obtain ⟨W1, hW1⟩ : ∃ W, W = w.alloc (.map #[] 0) := ⟨_, rfl⟩
  obtain ⟨W2, hW2⟩ : ∃ W, W = W1.alloc (.cells (cells17 leave (fun _ => 0) (fun _ => 0) (.slice none 0 0) w.heap.size) 83) := ⟨_, rfl⟩
  have s1 : W1.heap.size = w.heap.size + 1 := by rw [hW1]; simp
  have t1 : Turns (fun _ => False) w W1 := by rw [hW1]; exact (Turns.refl _ w).alloc _
  have t2 : Turns (fun _ => False) W1 W2 := by rw [hW2]; exact (Turns.refl _ W1).alloc _
  have m1 : MapIs W1 w.heap.size (fun _ => none) 0 := by rw [hW1]; exact mapIs_made w
  have hs := hb.size
  rw [← hW1, ← hW2]
  refine ⟨?_, World.ownsRow_nil _ _ _ _, m1.turn t2 (fun hf => hf), hb.trans ((t1.trans t2 fun _ _ hf => hf).below hs fun _ _ hf => hf), by omega, hs, by omega, by simp [Value.ownBlock], by simp [Value.ownBlock]⟩
  rw [hW2, ← s1]
  exact heap_alloc_new W1 _
theorem cells17_lit (leave : Bool) (A : Nat) : cells17 leave (fun _ => 0) (fun _ => 0) (.slice none 0 0) A = #[.bool leave, .int .i64 0, .int .i64 0, .int .i64 0, .int .i64 0, .int .i64 0, .int .i64 0, .int .i64 0, .int .i64 0, .int .i64 0, .int .i64 0, .int .i64 0, .int .i64 0, .int .i64 0, .int .i64 0, .slice none 0 0, .map (some A)] := rfl
end Go.Proofs.YtccjognnehoodahGreat

namespace Go.Proofs.YtccjognnehoodahGreat
open Go.RowKit

theorem hid_b {p : Prop} (h : p) : Hid p := h
theorem zero_intB (w : World) : (zeroValue 3).run Tryz.prog w = .ok (.int .i64 0) w := by kernel_rfl
def opV3 (x : Op3) : Value := .agg #[.int .i64 x.1, .int .i64 x.2.1, .int .i64 x.2.2]
theorem op_newB (w : World) (x : Op3) (t : TypeId) : ∀ j u, (flat [x])[j]? = some u → (w.alloc (.cells #[.int .i64 x.1, .int .i64 x.2.1, .int .i64 x.2.2] t)).cell? ((⟨w.heap.size, 0, none⟩ : Addr).add j) = some u := by
  intro j u hj
  rw [Addr.add_lit]
  obtain ⟨a, b, c⟩ := x
  rcases j with _ | _ | _ | j
  · simpa [flat] using hj
  · simpa [flat] using hj
  · simpa [flat] using hj
  · simp [flat] at hj
set_option maxHeartbeats 4000000 in
set_option maxRecDepth 100000 in
theorem tell_book {w0 w : World} {R A : Nat} {leave : Bool} {s : Stm} {tv : Value} (x : Op3) (h : BookAt w0 w R A leave s tv) (hl : s.told.length ≤ 47) :
    Calls Tryz.prog 78 #[.pointer (some ⟨R, 0, none⟩), opV3 x] w fun e w' => e = .returned (.tuple #[]) ∧ ∃ tv', BookAt w0 w' R A leave { s with told := s.told ++ [x] } tv' := by
  obtain ⟨t, a, i⟩ := x
  obtain ⟨i0, hi, hz0, hs0, hy0⟩ := info_parts infoOp
  have HI : Hid (Tryz.prog.info? 51 = some i0 ∧ i0.zero = some (.agg #[.int .i64 0, .int .i64 0, .int .i64 0]) ∧ i0.size = 3 ∧ i0.bytes = 24) := ⟨hi, hz0, hs0, hy0⟩
  have HL := hid_b h
  unfold opV3
  clear hi hz0 hs0 hy0
  go_enter Tryz.func78, Tryz.ntmps78
  go_upto_region 1 with (fail)
  obtain ⟨W, hW⟩ : ∃ W, W = w.alloc (.cells #[.int .i64 t, .int .i64 a, .int .i64 i] 51) := ⟨_, rfl⟩
  rw [← hW]
  have hbW : Below w.heap.size w W := by rw [hW]; exact (Below.refl _ w).alloc (Nat.le_refl _) _
  have p0 : W.cell? ⟨w.heap.size, 0, none⟩ = some (.int .i64 t) := by rw [hW]; simp
  have p1 : W.cell? ⟨w.heap.size, 1, none⟩ = some (.int .i64 a) := by rw [hW]; simp
  have p2 : W.cell? ⟨w.heap.size, 2, none⟩ = some (.int .i64 i) := by rw [hW]; simp
  obtain ⟨P, hP⟩ : ∃ P, P = w.heap.size := ⟨_, rfl⟩
  rw [← hP] at p0 p1 p2 ⊢
  have hLW := h.later hbW
  have HLW := hid_b hLW
  obtain ⟨ad5, c5, e5, -⟩ := own_slice3 hLW.told
  obtain ⟨n5, hn5⟩ : ∃ n, s.told.length = n := ⟨_, rfl⟩
  rw [hn5] at e5 hl
  have c2 := hLW.c15
  rw [e5] at c2
  have hRW := hLW.lt
  have HSZ : Hid (w0.heap.size ≤ W.heap.size) := hLW.old.size
  have HV : Hid (W.ownsRow w0.heap.size 51 3 (.slice ad5 n5 c5) n5 (flat s.told)) := by show World.ownsRow _ _ _ _ _ _ _; have := hLW.told; rw [e5, hn5] at this; exact this
  have HPT : Hid (∀ v2 w2 (ob : Obj), w2.ownsRow w0.heap.size 51 3 v2 (n5 + 1) (flat s.told ++ flat [(t, a, i)]) → (W.drew.alloc ob).grownBy w2 (Value.slice ad5 n5 c5).ownBlock → (∀ k, v2.ownBlock = some k → (Value.slice ad5 n5 c5).ownBlock = some k ∨ (W.drew.alloc ob).heap.size ≤ k) → w2.cell? ⟨R, 15, none⟩ = some (.slice ad5 n5 c5) ∧ w2.frozen? ⟨R, 15, none⟩ = false ∧ BookAt w0 (w2.setCell ⟨R, 15, none⟩ v2) R A leave { s with told := s.told ++ [(t, a, i)] } v2) := fun v2 w2 ob h1 h2 h3 => HLW.out.tellD e5 hn5 h1 h2 h3
  have hc2 : ∀ ob : Obj, (W.alloc ob).cell? ⟨R, 15, none⟩ = some (.slice ad5 n5 c5) := fun ob => by rw [World.cell?_alloc_lt _ _ ⟨R, 15, none⟩ hRW]; exact c2
  have hPW : P < W.heap.size := World.block_lt_of_cell? W _ p0
  clear hW hbW hP hLW e5 hn5 h
  go_region_law (refine step_append_apart rfl (.tmp 8) (.tmp 10) 22 rfl w0.heap.size 51 i0 (.agg #[.int .i64 0, .int .i64 0, .int .i64 0]) 3 24 Tryz.underlying22 HI.out.1 HI.out.2.1 HI.out.2.2.1 HI.out.2.2.2 rfl (by decide) (.slice ad5 n5 c5) n5 (flat s.told) (by simp [Act.eval]) (HV.out.alloc _) ⟨W.heap.size, 0, none⟩ 1 1 (flat [(t, a, i)]) (by simp [Act.eval]) rfl (op_newB W (t, a, i) _) (flat_one _) (by unfold maxLen; omega) (by omega) (by have := HSZ.out; simp; omega) ?_; intro v2 w2 hown2 hgr2 hap2; obtain ⟨g0, g1, g2⟩ := HPT.out v2 w2 _ hown2 hgr2 hap2; clear hap2 hgr2; obtain ⟨ad6, c6, rfl, -⟩ := own_slice3 hown2; have HK2 := hid_b g2; clear g2 hown2)
  all_goals
    go_wp2_with fail
    go_end0
    exact ⟨rfl, _, HK2.out⟩
set_option maxHeartbeats 4000000 in
set_option maxRecDepth 100000 in
theorem abort_book {w0 w : World} {R A : Nat} {leave : Bool} {s : Stm} {tv : Value} (t : Int) (h : BookAt w0 w R A leave s tv) (hf : FitS s) (ho : s.out t = false) (h1 : 1 ≤ t) (h6 : t ≤ 6) (hl : s.told.length ≤ 47) :
    Calls Tryz.prog 109 #[.pointer (some ⟨R, 0, none⟩), .int .i64 t] w fun e w' => e = .returned (.tuple #[]) ∧ ∃ tv', BookAt w0 w' R A leave (goneS s t) tv' := by
  have hn : t ∉ s.vict := by have := hf.1 t; rw [ho] at this; exact of_decide_eq_false this.symm
  have hno : (victF s.vict t).isSome = false := by rw [victF_some, decide_eq_false hn]
  have c3 := h.c16
  have HL := hid_b h
  have HM := hid_b h.outs
  have HNO := hid_b hno
  have HSN : Hid (∀ y, victF (s.vict ++ [t]) y = setF (victF s.vict) t (some (.int .i64 (s.vict.length : Int))) y) := fun y => victF_snoc hn y
  obtain ⟨m, hm⟩ : ∃ m, s.vict.length = m := ⟨_, rfl⟩
  have HMM := hid_b hm
  rw [hm] at HM HSN
  have HTL := hid_b hl
  clear h hf ho hn hno hm hl
  go_enter Tryz.func109, Tryz.ntmps109
  go_wp2_with (first | (at_len; refine wp_len _ rfl (.tmp 8) 81 rfl 3 Tryz.underlying81 A m (victF s.vict) rfl HM.out ?_) | (at_mapUpdate; refine wp_store _ rfl (.tmp 13) (.tmp 14) (.tmp 15) 81 rfl 3 Tryz.underlying81 A m (victF s.vict) rfl HM.out t (.int .i64 (m : Int)) rfl rfl h1 h6 ?_; intro w2 hm2 ht2))
  have HST : Hid (BookAt w0 w2 R A leave { s with vict := s.vict ++ [t], out := setF s.out t true } tv) := by
    refine HL.out.setOuts ?_ ht2
    rw [HNO.out] at hm2
    have := hm2.congr HSN.out
    rw [List.length_append, HMM.out]
    exact this
  clear hm2 ht2
  refine (tell_book (t, 4, 0) HST.out HTL.out).mono ?_
  rintro e w3 ⟨rfl, tv3, h3⟩
  have H3 := hid_b h3
  clear h3
  go_wp2_with fail
  go_end0
  exact ⟨rfl, tv3, H3.out⟩
/-- A book, and an op in a box of its own. -/
structure BkBox (w0 w : World) (R A : Nat) (leave : Bool) (s : Stm) (tv : Value) (P : Nat) (t a x : Int) : Prop where
  bk : BookAt w0 w R A leave s tv
  p0 : w.cell? ⟨P, 0, none⟩ = some (.int .i64 t)
  p1 : w.cell? ⟨P, 1, none⟩ = some (.int .i64 a)
  p2 : w.cell? ⟨P, 2, none⟩ = some (.int .i64 x)
  ne : P ≠ R
theorem BookAt.box {w0 w : World} {R A : Nat} {leave : Bool} {s : Stm} {tv : Value} (h : BookAt w0 w R A leave s tv) (t a x : Int) (T : TypeId) : BkBox w0 (w.alloc (.cells #[.int .i64 t, .int .i64 a, .int .i64 x] T)) R A leave s tv w.heap.size t a x :=
  ⟨h.later ((Below.refl _ w).alloc (Nat.le_refl _) _), by simp, by simp, by simp, by have := h.lt; omega⟩
theorem BkBox.drewN {w0 w : World} {R A P : Nat} {leave : Bool} {s : Stm} {tv : Value} {t a x : Int} (h : BkBox w0 w R A leave s tv P t a x) (n : Nat) : BkBox w0 (w.drewN n) R A leave s tv P t a x :=
  ⟨h.bk.later (below_drewN (Below.refl _ _) _), h.p0, h.p1, h.p2, h.ne⟩
section
variable {w0 w : World} {R A P : Nat} {leave : Bool} {s : Stm} {tv : Value} {t a x : Int}
theorem BkBox.drew (h : BkBox w0 w R A leave s tv P t a x) : BkBox w0 w.drew R A leave s tv P t a x :=
  ⟨h.bk.later (Below.refl _ w).drew, h.p0, h.p1, h.p2, h.ne⟩
theorem BkBox.lie (h : BkBox w0 w R A leave s tv P t a x) (q k : Nat) (u : Value) : (w.setCell ⟨R, q, none⟩ u).cell? ⟨P, k, none⟩ = w.cell? ⟨P, k, none⟩ := World.cell?_setCell_other _ _ _ _ (by intro he; injection he with he1 _ _; exact h.ne he1.symm)
theorem BkBox.setRd (h : BkBox w0 w R A leave s tv P t a x) {j : Nat} (hj : j < 7) (y : Int) : BkBox w0 (w.setCell ⟨R, 1 + j * 2, none⟩ (.int .i64 y)) R A leave { s with rd := setF s.rd (j : Int) y } tv P t a x :=
  ⟨h.bk.setRd hj y, by rw [h.lie]; exact h.p0, by rw [h.lie]; exact h.p1, by rw [h.lie]; exact h.p2, h.ne⟩
theorem BkBox.setWr (h : BkBox w0 w R A leave s tv P t a x) {j : Nat} (hj : j < 7) (y : Int) : BkBox w0 (w.setCell ⟨R, 1 + j * 2 + 1, none⟩ (.int .i64 y)) R A leave { s with wr := setF s.wr (j : Int) y } tv P t a x :=
  ⟨h.bk.setWr hj y, by rw [h.lie]; exact h.p0, by rw [h.lie]; exact h.p1, by rw [h.lie]; exact h.p2, h.ne⟩
end
set_option maxHeartbeats 8000000 in
set_option maxRecDepth 100000 in
theorem read_book {w0 w : World} {R A : Nat} {leave : Bool} {s : Stm} {tv : Value} (t x : Nat) (h : BookAt w0 w R A leave s tv) (hf : FitS s) (ho : s.out (t : Int) = false) (h1 : 1 ≤ t) (h6 : t ≤ 6) (x1 : 1 ≤ x) (x6 : x ≤ 6) (hl : s.told.length ≤ 46) :
    Calls Tryz.prog 76 #[.pointer (some ⟨R, 0, none⟩), opV3 ((t : Int), 1, (x : Int))] w fun e w' => e = .returned (.tuple #[]) ∧ ∃ tv', BookAt w0 w' R A leave (stepS leave s ((t : Int), 1, (x : Int))) tv' := by
  have HNX0 : Hid (stepS leave s ((t : Int), 1, (x : Int)) = if (t : Int) < s.wr (x : Int) then goneS s (t : Int) else { s with rd := setF s.rd (x : Int) (maxI (s.rd (x : Int)) (t : Int)), told := s.told ++ [((t : Int), 1, (x : Int))] }) := by
    show _ = _
    unfold stepS badS lateS
    rw [if_neg (by rw [ho]; decide)]
    by_cases e : (t : Int) < s.wr (x : Int)
    · simp [e]
    · simp [e]
  have HAB : Hid (∀ W tv', BookAt w0 W R A leave s tv' → Calls Tryz.prog 109 #[.pointer (some ⟨R, 0, none⟩), .int .i64 (t : Int)] W fun e w' => e = .returned (.tuple #[]) ∧ ∃ tv', BookAt w0 w' R A leave (goneS s (t : Int)) tv') := fun W tv' hW => abort_book (t : Int) hW hf ho (by omega) (by omega) (by omega)
  have HTL := hid_b hl
  have hx0 : (0 : Int) ≤ (x : Int) := by omega
  have hxn : ¬ (x : Int) < 0 := by omega
  have hx7 : (x : Int) < 7 := by omega
  have HX : Hid (x < 7) := by show _ < _; omega
  have HBX := hid_b (h.box (t : Int) 1 (x : Int) 51)
  obtain ⟨rx, hrx⟩ : ∃ r, s.rd (x : Int) = r := ⟨_, rfl⟩
  obtain ⟨wx, hwx⟩ : ∃ r, s.wr (x : Int) = r := ⟨_, rfl⟩
  have HRX := hid_b hrx
  have HWX := hid_b hwx
  unfold opV3
  clear hf ho hl h h1 h6 x1 x6 hrx hwx
  go_enter Tryz.func76, Tryz.ntmps76
  go_upto_region 1 with (fail)
  obtain ⟨W, hW⟩ : ∃ W, W = w.alloc (.cells #[.int .i64 (t : Int), .int .i64 1, .int .i64 (x : Int)] 51) := ⟨_, rfl⟩
  obtain ⟨P, hP⟩ : ∃ P, P = w.heap.size := ⟨_, rfl⟩
  rw [← hW, ← hP] at HBX ⊢
  clear hW hP
  obtain ⟨p0, p1, p2⟩ : _ ∧ _ ∧ _ := ⟨HBX.out.p0, HBX.out.p1, HBX.out.p2⟩
  go_quiet (fail)
  replace HBX := hid_b (HBX.out.drewN nq)
  obtain ⟨W2, hQ⟩ : ∃ Z : World, Z = W.drewN nq := ⟨_, rfl⟩
  rw [← hQ] at HBX ⊢
  clear hQ p0 p1 p2
  obtain ⟨p0, p1, p2⟩ : _ ∧ _ ∧ _ := ⟨HBX.out.p0, HBX.out.p1, HBX.out.p2⟩
  have cr : W2.cell? ⟨R, 1 + x * 2, none⟩ = some (.int .i64 rx) := by rw [← HRX.out]; exact HBX.out.bk.cr HX.out
  have cw : W2.cell? ⟨R, 1 + x * 2 + 1, none⟩ = some (.int .i64 wx) := by rw [← HWX.out]; exact HBX.out.bk.cw HX.out
  go_wp2_with fail
  go_quiet (fail)
  replace HBX := hid_b (HBX.out.drewN nq)
  obtain ⟨W3, hQ⟩ : ∃ Z : World, Z = W2.drewN nq := ⟨_, rfl⟩
  rw [← hQ] at HBX ⊢
  clear hQ p0 p1 p2 cr cw
  obtain ⟨p0, p1, p2⟩ : _ ∧ _ ∧ _ := ⟨HBX.out.p0, HBX.out.p1, HBX.out.p2⟩
  by_cases hb : (t : Int) < wx
  · have hbd : decide ((t : Int) < wx) = true := decide_eq_true hb
    have HNX : Hid (stepS leave s ((t : Int), 1, (x : Int)) = goneS s (t : Int)) := by show _ = _; rw [HNX0.out, HWX.out, if_pos hb]
    go_wp2_with fail
    refine (HAB.out _ _ HBX.out.bk).mono ?_
    rintro e w3 ⟨rfl, tv3, h3⟩
    have H3 := hid_b h3
    clear h3
    go_wp2_with fail
    refine bodyPost_ret (results_none Tryz.results76 _ _ _) rfl ⟨rfl, tv3, ?_⟩
    rw [HNX.out]; exact H3.out
  · have hbd : decide ((t : Int) < wx) = false := decide_eq_false hb
    have cr : W3.cell? ⟨R, 1 + x * 2, none⟩ = some (.int .i64 rx) := by rw [← HRX.out]; exact HBX.out.bk.cr HX.out
    have fr : W3.frozen? ⟨R, 1 + x * 2, none⟩ = false := HBX.out.bk.thaw _
    obtain ⟨mx, hmx⟩ : ∃ m, maxI rx (t : Int) = m := ⟨_, rfl⟩
    have hm1 : (if (t : Int) > rx then (t : Int) else rx) = mx := hmx
    have hm2 : (if rx < (t : Int) then (t : Int) else rx) = mx := hmx
    have hm3 : max rx (t : Int) = mx := by rw [← hmx]; unfold maxI; rw [Int.max_def]; split <;> split <;> omega
    have HNX : Hid (stepS leave s ((t : Int), 1, (x : Int)) = { s with rd := setF s.rd (x : Int) mx, told := s.told ++ [((t : Int), 1, (x : Int))] }) := by show _ = _; rw [HNX0.out, HWX.out, HRX.out, hmx, if_neg hb]
    have HNE := hid_b HBX.out.ne
    clear hmx
    go_upto_region 4 with (fail)
    go_region
    all_goals
      have HB4 := hid_b ((HBX.out.setRd HX.out mx).drew)
      obtain ⟨W4, hQ⟩ : ∃ Z : World, Z = (W3.setCell ⟨R, 1 + x * 2, none⟩ (.int .i64 mx)).drew := ⟨_, rfl⟩
      rw [← hQ] at HB4 ⊢
      clear hQ p0 p1 p2 cr fr hm1 hm2 hm3 HBX
      obtain ⟨p0, p1, p2⟩ : _ ∧ _ ∧ _ := ⟨HB4.out.p0, HB4.out.p1, HB4.out.p2⟩
      go_wp2_with fail
      refine (tell_book ((t : Int), 1, (x : Int)) HB4.out.bk (by have := HTL.out; show s.told.length ≤ 47; omega)).mono ?_
      rintro e w5 ⟨rfl, tv5, h5⟩
      have H5 := hid_b h5
      clear h5
      go_wp2_with fail
      go_end0
      refine ⟨rfl, tv5, ?_⟩
      rw [HNX.out]
      exact H5.out
set_option maxHeartbeats 8000000 in
set_option maxRecDepth 100000 in
theorem write_book {w0 w : World} {R A : Nat} {leave : Bool} {s : Stm} {tv : Value} (t x : Nat) (h : BookAt w0 w R A leave s tv) (hf : FitS s) (ho : s.out (t : Int) = false) (h1 : 1 ≤ t) (h6 : t ≤ 6) (x1 : 1 ≤ x) (x6 : x ≤ 6) (hl : s.told.length ≤ 46) :
    Calls Tryz.prog 77 #[.pointer (some ⟨R, 0, none⟩), opV3 ((t : Int), 2, (x : Int))] w fun e w' => e = .returned (.tuple #[]) ∧ ∃ tv', BookAt w0 w' R A leave (stepS leave s ((t : Int), 2, (x : Int))) tv' := by
  have HNX0 : Hid (stepS leave s ((t : Int), 2, (x : Int)) = if (t : Int) < s.rd (x : Int) then goneS s (t : Int) else if (t : Int) < s.wr (x : Int) then (if leave = true then s else goneS s (t : Int)) else { s with wr := setF s.wr (x : Int) (t : Int), told := s.told ++ [((t : Int), 2, (x : Int))] }) := by
    show _ = _
    unfold stepS badS lateS
    rw [if_neg (by rw [ho]; decide)]
    by_cases e : (t : Int) < s.rd (x : Int)
    · simp [e]
    · by_cases e2 : (t : Int) < s.wr (x : Int)
      · cases leave <;> simp [e, e2]
      · simp [e, e2]
  have HAB : Hid (∀ W tv', BookAt w0 W R A leave s tv' → Calls Tryz.prog 109 #[.pointer (some ⟨R, 0, none⟩), .int .i64 (t : Int)] W fun e w' => e = .returned (.tuple #[]) ∧ ∃ tv', BookAt w0 w' R A leave (goneS s (t : Int)) tv') := fun W tv' hW => abort_book (t : Int) hW hf ho (by omega) (by omega) (by omega)
  have HTL := hid_b hl
  have hx0 : (0 : Int) ≤ (x : Int) := by omega
  have hxn : ¬ (x : Int) < 0 := by omega
  have hx7 : (x : Int) < 7 := by omega
  have HX : Hid (x < 7) := by show _ < _; omega
  have HBX := hid_b (h.box (t : Int) 2 (x : Int) 51)
  obtain ⟨rx, hrx⟩ : ∃ r, s.rd (x : Int) = r := ⟨_, rfl⟩
  obtain ⟨wx, hwx⟩ : ∃ r, s.wr (x : Int) = r := ⟨_, rfl⟩
  have HRX := hid_b hrx
  have HWX := hid_b hwx
  unfold opV3
  clear hf ho hl h h1 h6 x1 x6 hrx hwx
  go_enter Tryz.func77, Tryz.ntmps77
  go_upto_region 1 with (fail)
  obtain ⟨W, hW⟩ : ∃ W, W = w.alloc (.cells #[.int .i64 (t : Int), .int .i64 2, .int .i64 (x : Int)] 51) := ⟨_, rfl⟩
  obtain ⟨P, hP⟩ : ∃ P, P = w.heap.size := ⟨_, rfl⟩
  rw [← hW, ← hP] at HBX ⊢
  clear hW hP
  obtain ⟨p0, p1, p2⟩ : _ ∧ _ ∧ _ := ⟨HBX.out.p0, HBX.out.p1, HBX.out.p2⟩
  go_quiet (fail)
  replace HBX := hid_b (HBX.out.drewN nq)
  obtain ⟨W2, hQ⟩ : ∃ Z : World, Z = W.drewN nq := ⟨_, rfl⟩
  rw [← hQ] at HBX ⊢
  clear hQ p0 p1 p2
  obtain ⟨p0, p1, p2⟩ : _ ∧ _ ∧ _ := ⟨HBX.out.p0, HBX.out.p1, HBX.out.p2⟩
  have cr : W2.cell? ⟨R, 1 + x * 2, none⟩ = some (.int .i64 rx) := by rw [← HRX.out]; exact HBX.out.bk.cr HX.out
  go_wp2_with fail
  go_quiet (fail)
  replace HBX := hid_b (HBX.out.drewN nq)
  obtain ⟨W3, hQ⟩ : ∃ Z : World, Z = W2.drewN nq := ⟨_, rfl⟩
  rw [← hQ] at HBX ⊢
  clear hQ p0 p1 p2 cr
  obtain ⟨p0, p1, p2⟩ : _ ∧ _ ∧ _ := ⟨HBX.out.p0, HBX.out.p1, HBX.out.p2⟩
  by_cases hr : (t : Int) < rx
  · have hrd : decide ((t : Int) < rx) = true := decide_eq_true hr
    have HNX : Hid (stepS leave s ((t : Int), 2, (x : Int)) = goneS s (t : Int)) := by show _ = _; rw [HNX0.out, HRX.out, if_pos hr]
    go_wp2_with fail
    refine (HAB.out _ _ HBX.out.bk).mono ?_
    rintro e w3 ⟨rfl, tv3, h3⟩
    have H3 := hid_b h3
    clear h3
    go_wp2_with fail
    go_end0
    refine ⟨rfl, tv3, ?_⟩
    rw [HNX.out]; exact H3.out
  · have hrd : decide ((t : Int) < rx) = false := decide_eq_false hr
    have HRN : Hid (¬ (t : Int) < rx) := hr
    have cw : W3.cell? ⟨R, 1 + x * 2 + 1, none⟩ = some (.int .i64 wx) := by rw [← HWX.out]; exact HBX.out.bk.cw HX.out
    go_wp2_with fail
    go_quiet (fail)
    replace HBX := hid_b (HBX.out.drewN nq)
    obtain ⟨W4, hQ⟩ : ∃ Z : World, Z = W3.drewN nq := ⟨_, rfl⟩
    rw [← hQ] at HBX ⊢
    clear hQ p0 p1 p2 cw
    obtain ⟨p0, p1, p2⟩ : _ ∧ _ ∧ _ := ⟨HBX.out.p0, HBX.out.p1, HBX.out.p2⟩
    by_cases hw : (t : Int) < wx
    · have hwd : decide (wx ≤ (t : Int)) = false := decide_eq_false (by omega)
      have hwn : ¬ wx ≤ (t : Int) := by omega
      have c0 := HBX.out.bk.c0
      cases leave with
      | true =>
        have HNX : Hid (stepS true s ((t : Int), 2, (x : Int)) = s) := by show _ = _; rw [HNX0.out, HRX.out, HWX.out, if_neg (show ¬ (t : Int) < rx by have := HRN.out; omega), if_pos hw, if_pos rfl]
        go_wp2_with fail
        go_end0
        refine ⟨rfl, tv, ?_⟩
        rw [HNX.out]; exact HBX.out.bk
      | false =>
        have HNX : Hid (stepS false s ((t : Int), 2, (x : Int)) = goneS s (t : Int)) := by show _ = _; rw [HNX0.out, HRX.out, HWX.out, if_neg (show ¬ (t : Int) < rx by have := HRN.out; omega), if_pos hw, if_neg (by decide)]
        go_wp2_with fail
        refine (HAB.out _ _ HBX.out.bk).mono ?_
        rintro e w3 ⟨rfl, tv3, h3⟩
        have H3 := hid_b h3
        clear h3
        go_wp2_with fail
        go_end0
        refine ⟨rfl, tv3, ?_⟩
        rw [HNX.out]; exact H3.out
    · have hwd : decide (wx ≤ (t : Int)) = true := decide_eq_true (by omega)
      have hwn : wx ≤ (t : Int) := by omega
      have HNX : Hid (stepS leave s ((t : Int), 2, (x : Int)) = { s with wr := setF s.wr (x : Int) (t : Int), told := s.told ++ [((t : Int), 2, (x : Int))] }) := by show _ = _; rw [HNX0.out, HRX.out, HWX.out, if_neg (show ¬ (t : Int) < rx by have := HRN.out; omega), if_neg hw]
      have cw : W4.cell? ⟨R, 1 + x * 2 + 1, none⟩ = some (.int .i64 wx) := by rw [← HWX.out]; exact HBX.out.bk.cw HX.out
      have fr : W4.frozen? ⟨R, 1 + x * 2 + 1, none⟩ = false := HBX.out.bk.thaw _
      go_upto_region 6 with (fail)
      have HB4 := hid_b (HBX.out.setWr HX.out (t : Int))
      obtain ⟨W5, hQ⟩ : ∃ Z : World, Z = W4.setCell ⟨R, 1 + x * 2 + 1, none⟩ (.int .i64 (t : Int)) := ⟨_, rfl⟩
      rw [← hQ] at HB4 ⊢
      clear hQ p0 p1 p2 cw fr HBX
      obtain ⟨p0, p1, p2⟩ : _ ∧ _ ∧ _ := ⟨HB4.out.p0, HB4.out.p1, HB4.out.p2⟩
      go_wp2_with fail
      refine (tell_book ((t : Int), 2, (x : Int)) HB4.out.bk (by have := HTL.out; show s.told.length ≤ 47; omega)).mono ?_
      rintro e w6 ⟨rfl, tv6, h6⟩
      have H6 := hid_b h6
      clear h6
      go_wp2_with fail
      go_end0
      refine ⟨rfl, tv6, ?_⟩
      rw [HNX.out]
      exact H6.out
set_option maxHeartbeats 8000000 in
set_option maxRecDepth 100000 in
theorem come_book {w0 w : World} {R A : Nat} {leave : Bool} {s : Stm} {tv : Value} (o : Op3) (h : BookAt w0 w R A leave s tv) (hf : FitS s) (hop : isOpB o = true) (hl : s.told.length ≤ 46) :
    Calls Tryz.prog 36 #[.pointer (some ⟨R, 0, none⟩), opV3 o] w fun e w' => e = .returned (.tuple #[]) ∧ ∃ tv', BookAt w0 w' R A leave (stepS leave s o) tv' := by
  obtain ⟨t, a, i⟩ := o
  obtain ⟨h1, h6⟩ := isOp_range hop
  have hkd := isOp_kinds hop
  simp only at h1 h6 hkd
  have hwf : Wf t := wf_deal h1 h6
  have HBX := hid_b (h.box t a i 51)
  have HVS : Hid ((victF s.vict t).isSome = s.out t) := by show _ = _; rw [victF_some, hf.1 t]
  have HVV : Hid (∃ u, (victF s.vict t).getD (.int .i64 0) = .int .i64 u) := by
    show ∃ u, _
    unfold victF
    cases posL s.vict t with
    | none => exact ⟨0, rfl⟩
    | some k => exact ⟨k, rfl⟩
  have HRD : Hid (s.out t = false → a = 1 → ∀ W tv', BookAt w0 W R A leave s tv' → Calls Tryz.prog 76 #[.pointer (some ⟨R, 0, none⟩), .agg #[.int .i64 t, .int .i64 1, .int .i64 i]] W fun e w' => e = .returned (.tuple #[]) ∧ ∃ tv', BookAt w0 w' R A leave (stepS leave s (t, 1, i)) tv') := fun ho ha W tv' hW => by
    subst ha
    have hi1 := isOp_pos hop (.inl rfl)
    have hi6 : i ≤ 6 := by simp [isOpB, endsB] at hop; omega
    obtain ⟨tn, rfl⟩ : ∃ k : Nat, t = k := ⟨t.toNat, by omega⟩
    obtain ⟨xn, rfl⟩ : ∃ k : Nat, i = k := ⟨i.toNat, by simp only at hi1; omega⟩
    exact read_book tn xn hW hf ho (by omega) (by omega) (by simp only at hi1; omega) (by omega) hl
  have HWR : Hid (s.out t = false → a = 2 → ∀ W tv', BookAt w0 W R A leave s tv' → Calls Tryz.prog 77 #[.pointer (some ⟨R, 0, none⟩), .agg #[.int .i64 t, .int .i64 2, .int .i64 i]] W fun e w' => e = .returned (.tuple #[]) ∧ ∃ tv', BookAt w0 w' R A leave (stepS leave s (t, 2, i)) tv') := fun ho ha W tv' hW => by
    subst ha
    have hi1 := isOp_pos hop (.inr rfl)
    have hi6 : i ≤ 6 := by simp [isOpB, endsB] at hop; omega
    obtain ⟨tn, rfl⟩ : ∃ k : Nat, t = k := ⟨t.toNat, by omega⟩
    obtain ⟨xn, rfl⟩ : ∃ k : Nat, i = k := ⟨i.toNat, by simp only at hi1; omega⟩
    exact write_book tn xn hW hf ho (by omega) (by omega) (by simp only at hi1; omega) (by omega) hl
  have HTL := hid_b hl
  unfold opV3
  clear hf hop hl h h1 h6
  go_enter Tryz.func36, Tryz.ntmps36
  go_upto_region 1 with (fail)
  obtain ⟨W, hW⟩ : ∃ W, W = w.alloc (.cells #[.int .i64 t, .int .i64 a, .int .i64 i] 51) := ⟨_, rfl⟩
  obtain ⟨P, hP⟩ : ∃ P, P = w.heap.size := ⟨_, rfl⟩
  rw [← hW, ← hP] at HBX ⊢
  clear hW hP
  obtain ⟨p0, p1, p2⟩ : _ ∧ _ ∧ _ := ⟨HBX.out.p0, HBX.out.p1, HBX.out.p2⟩
  have c16 := HBX.out.bk.c16
  obtain ⟨u, hu⟩ := HVV.out
  have HU := hid_b hu
  obtain ⟨b, hb⟩ : ∃ b, s.out t = b := ⟨_, rfl⟩
  have HVB : Hid ((victF s.vict t).isSome = b) := HVS.out.trans hb
  clear hu
  have hlk : ∀ n, (Instr.lookup 81 (.map (some A)) (.int .i64 t) true).run Tryz.prog (W.drewN n) = .ok (.tuple #[.int .i64 u, .bool b]) (W.drewN n) := fun n => by
    have h1 := (HBX.out.drewN n).bk.outs.look true Tryz.underlying81 (zero_intB _) hwf
    rw [HU.out, HVB.out] at h1
    exact h1
  go_quiet (fail)
  clear hlk c16 p0 p1 p2
  replace HBX := hid_b (HBX.out.drewN nq)
  obtain ⟨W2, hQ⟩ : ∃ Z : World, Z = W.drewN nq := ⟨_, rfl⟩
  rw [← hQ] at HBX ⊢
  clear hQ
  obtain ⟨p0, p1, p2⟩ : _ ∧ _ ∧ _ := ⟨HBX.out.p0, HBX.out.p1, HBX.out.p2⟩
  cases b with
  | true =>
    have HNX : Hid (stepS leave s (t, a, i) = s) := by show _ = _; unfold stepS; rw [if_pos hb]
    clear hb
    go_wp2_with fail
    refine bodyPost_ret (results_none Tryz.results36 _ _ _) rfl ⟨rfl, tv, ?_⟩
    rw [HNX.out]; exact HBX.out.bk
  | false =>
    have HO := hid_b hb
    clear hb
    rcases hkd with rfl | rfl | ⟨h3, hi0⟩
    · go_wp2_with fail
      refine (HRD.out HO.out (by first | rfl | trivial) _ _ HBX.out.bk).mono ?_
      rintro e w3 ⟨rfl, tv3, h3⟩
      have H3 := hid_b h3
      clear h3
      go_wp2_with fail
      go_end0
      exact ⟨rfl, tv3, H3.out⟩
    · go_wp2_with fail
      refine (HWR.out HO.out (by first | rfl | trivial) _ _ HBX.out.bk).mono ?_
      rintro e w3 ⟨rfl, tv3, h3⟩
      have H3 := hid_b h3
      clear h3
      go_wp2_with fail
      go_end0
      exact ⟨rfl, tv3, H3.out⟩
    · have ha1 : ¬ a = 1 := by omega
      have ha2 : ¬ a = 2 := by omega
      have ha1b : (a == 1) = false := by simpa using ha1
      have ha2b : (a == 2) = false := by simpa using ha2
      have HNX : Hid (stepS leave s (t, a, i) = { s with told := s.told ++ [(t, a, i)] }) := by
        show _ = _
        unfold stepS badS
        simp only [if_neg ha1, if_neg ha2]
        rw [if_neg (by rw [HO.out]; decide), if_neg (by decide)]
      clear h3 hi0
      go_wp2_with fail
      refine (tell_book (t, a, i) HBX.out.bk (by have := HTL.out; omega)).mono ?_
      rintro e w3 ⟨rfl, tv3, h3⟩
      have H3 := hid_b h3
      clear h3
      go_wp2_with fail
      go_end0
      refine ⟨rfl, tv3, ?_⟩
      rw [HNX.out]; exact H3.out
end Go.Proofs.YtccjognnehoodahGreat
