/-
  PROVED HERE: append on a row of one's own, and where the row lies then: where it lay, or in a new block.
  Conditions: as the library's law of append has them.
  PROVED HERE: how a run of package course (two rules, who is done, three maps: when deals began, what each read, what each wrote) lies in memory that was made since a world: a block, three maps, fifteen rows, all apart; what becomes of it when one of its parts is set.
  Conditions: none.
-/
import Derived.WalkKit
import Derived.WalkSpells
import Derived.Handy
import Derived.Deep.RegionLaw
import Derived.Laws.AppendOwn
import Derived.ArgAppend
import Derived.Test.YtccjognnehoodafDoorMgbf
namespace Go.Proofs.YtccjognnehoodafDoor
open Go.RowKit

theorem row_less {w : World} {base base2 e size n : Nat} {v : Value} {xs : List Value} (h : w.ownsRow base e size v n xs) (hb : base2 ≤ base) : w.ownsRow base2 e size v n xs := by
  obtain ⟨hl, hd | ⟨g, cap, cur, hv, hbg, hg, hn, hm, hsz, htk⟩⟩ := h
  · exact ⟨hl, .inl hd⟩
  · exact ⟨hl, .inr ⟨g, cap, cur, hv, Nat.le_trans hb hbg, hg, hn, hm, hsz, htk⟩⟩
theorem run_append_apart {P : Program} (w : World) (base : Nat) (t ty e : TypeId) (i : TypeInfo) (z : Value) (size bytes : Nat) (ht : P.underlying t = some (.slice e)) (hi : P.info? e = some i) (hz : i.zero = some z)
    (hsize : i.size = size) (hby : i.bytes = bytes) (hzs : z.cells.size = size) (hsz : 0 < size)
    (v : Value) (n : Nat) (xs : List Value) (hown : w.ownsRow base e size v n xs)
    (a : Addr) (m c : Nat) (news : List Value) (hl : news.length = m * size) (hnews : ∀ j u, news[j]? = some u → w.cell? (a.add j) = some u) (h1 : ∀ u ∈ news, u.oneCell' = true)
    (h63 : n + m ≤ maxLen) (hbytes : (n + m) * bytes ≤ 140737488355328) (hbase : base ≤ w.heap.size) :
    ∃ v' w', (Builtin.append_ #[t, t] ty #[v, .slice (some a) m c]).run P w = .ok v' w' ∧ w'.ownsRow base e size v' (n + m) (xs ++ news) ∧ w.grownBy w' v.ownBlock ∧
      ∀ g, v'.ownBlock = some g → v.ownBlock = some g ∨ w.heap.size ≤ g := by
  have hown' := hown
  rcases hown.2 with ⟨rfl, rfl⟩ | ⟨g, cap, cur, rfl, hbg, hg, hnc, hcm, hcs, htake⟩
  · have hx : xs = [] := List.eq_nil_of_length_eq_zero (by simpa using hown.1)
    subst hx
    obtain ⟨v', w', hr, ho, hgr, -⟩ := run_append_own (P := P) w w.heap.size t ty e i z size bytes ht hi hz hsize hby hzs hsz (.slice none 0 0) 0 [] (World.ownsRow_nil w _ e size) a m c news hl hnews h1 h63 hbytes (Nat.le_refl _)
    exact ⟨v', w', hr, row_less ho hbase, hgr, fun g hg => .inr (ho.lt g hg).1⟩
  · by_cases hroom : n + m ≤ cap
    · obtain ⟨v', w', hr, ho, hgr, -⟩ := run_append_own (P := P) w base t ty e i z size bytes ht hi hz hsize hby hzs hsz (.slice (some ⟨g, 0, none⟩) n cap) n xs hown' a m c news hl hnews h1 h63 hbytes hbase
      subst hsize
      have hfit : n * i.size + news.length ≤ cur.size := by rw [hl, hcs, ← Nat.add_mul]; exact Nat.mul_le_mul_right _ hroom
      have hr2 := run_append_room (P := P) w t ty e i ht hi g n cap cur hg a m c news hl hnews h1 hroom hfit
      rw [hr2] at hr
      injection hr with e1 e2
      subst e1
      exact ⟨_, w', by rw [hr2, e2], ho, hgr, fun q hq => .inl (by simpa [Value.ownBlock] using hq)⟩
    · obtain ⟨v', w', hr, ho, hgr⟩ := run_append_arg_grows (P := P) w t ty e i z size bytes ht hi hz hsize hby hzs hsz ⟨g, 0, none⟩ n cap xs hown.1 (hown.cells (g := g) rfl) a m c news hl hnews (by omega) h63 hbytes
      exact ⟨v', w', hr, row_less ho hbase, ⟨hgr.os, hgr.tape, hgr.output, hgr.size, fun k hk _ => hgr.block k hk (by simp)⟩, fun q hq => .inr (ho.lt q hq).1⟩
theorem wp_append_apart {P : Program} {o : Oper} {a : Act} (w : World) {K : Act → World → Prop} {Q : Exit → Act → World → Prop} (s x : Operand) (t : TypeId)
    (ho : o.op = .call { callee := .builtin .append, args := #[s, x], argTypes := #[t, t] })
    (base : Nat) (e : TypeId) (i : TypeInfo) (z : Value) (size bytes : Nat) (ht : P.underlying t = some (.slice e)) (hi : P.info? e = some i) (hz : i.zero = some z)
    (hsize : i.size = size) (hby : i.bytes = bytes) (hzs : z.cells.size = size) (hsz : 0 < size)
    (v : Value) (n : Nat) (xs : List Value) (hs : a.eval s = v) (hown : w.ownsRow base e size v n xs)
    (ad : Addr) (m c : Nat) (news : List Value) (hx : a.eval x = .slice (some ad) m c) (hl : news.length = m * size) (hnews : ∀ j u, news[j]? = some u → w.cell? (ad.add j) = some u) (h1 : ∀ u ∈ news, u.oneCell' = true)
    (h63 : n + m ≤ maxLen) (hbytes : (n + m) * bytes ≤ 140737488355328) (hbase : base ≤ w.heap.size)
    (h : ∀ v' w', w'.ownsRow base e size v' (n + m) (xs ++ news) → w.grownBy w' v.ownBlock → (∀ g, v'.ownBlock = some g → v.ownBlock = some g ∨ w.heap.size ≤ g) → K (a.put o.dst v') w') : o.wp P a w K Q := by
  obtain ⟨v', w', hr, h2, h3, h4⟩ := run_append_apart (P := P) w base t o.type e i z size bytes ht hi hz hsize hby hzs hsz v n xs hown ad m c news hl hnews h1 h63 hbytes hbase
  unfold Oper.wp execOp
  simp only [ho, resolve, invoke, builtin, Sem.run_bind, Sem.run_pure, Result.andThen_ok, List.map_toArray, List.map_cons, List.map_nil, hs, hx, hr]
  exact h v' w' h2 h3 h4
/-- As one step of a region that draws. -/
theorem step_append_apart {P : Program} {ops : Array Oper} {o : Oper} {a : Act} {w : World} {K : Act → World → Prop} {Q : Exit → Act → World → Prop} {E : Prop}
    (hgd : o.guard = none) (s x : Operand) (t : TypeId) (ho : o.op = .call { callee := .builtin .append, args := #[s, x], argTypes := #[t, t] })
    (base : Nat) (e : TypeId) (i : TypeInfo) (z : Value) (size bytes : Nat) (ht : P.underlying t = some (.slice e)) (hi : P.info? e = some i) (hz : i.zero = some z)
    (hsize : i.size = size) (hby : i.bytes = bytes) (hzs : z.cells.size = size) (hsz : 0 < size)
    (v : Value) (n : Nat) (xs : List Value) (hs : a.eval s = v) (hown : w.ownsRow base e size v n xs)
    (ad : Addr) (m c : Nat) (news : List Value) (hx : a.eval x = .slice (some ad) m c) (hl : news.length = m * size) (hnews : ∀ j u, news[j]? = some u → w.cell? (ad.add j) = some u) (h1 : ∀ u ∈ news, u.oneCell' = true)
    (h63 : n + m ≤ maxLen) (hbytes : (n + m) * bytes ≤ 140737488355328) (hbase : base ≤ w.heap.size)
    (h : ∀ v' w', w'.ownsRow base e size v' (n + m) (xs ++ news) → w.grownBy w' v.ownBlock → (∀ g, v'.ownBlock = some g → v.ownBlock = some g ∨ w.heap.size ≤ g) → K (a.put o.dst v') w') :
    if Region.wanted o (yielded ops a.tmps) = true then Oper.wp P o a w K Q else E := by
  have hw : Region.wanted o (yielded ops a.tmps) = true := by simp [Region.wanted, hgd]
  rw [if_pos hw]
  exact wp_append_apart w s x t ho base e i z size bytes ht hi hz hsize hby hzs hsz v n xs hs hown ad m c news hx hl hnews h1 h63 hbytes hbase h
/-- As an operation of a region in the text's order. -/
theorem wpList_append_apart {P : Program} (w : World) {ops : Array Oper} {rest : List Oper} {o : Oper} {a : Act} {Q : Exit → Act → World → Prop} (hgd : o.guard = none) (s x : Operand) (t : TypeId)
    (ho : o.op = .call { callee := .builtin .append, args := #[s, x], argTypes := #[t, t] })
    (base : Nat) (e : TypeId) (i : TypeInfo) (z : Value) (size bytes : Nat) (ht : P.underlying t = some (.slice e)) (hi : P.info? e = some i) (hz : i.zero = some z)
    (hsize : i.size = size) (hby : i.bytes = bytes) (hzs : z.cells.size = size) (hsz : 0 < size)
    (v : Value) (n : Nat) (xs : List Value) (hs : a.eval s = v) (hown : w.ownsRow base e size v n xs)
    (ad : Addr) (m c : Nat) (news : List Value) (hx : a.eval x = .slice (some ad) m c) (hl : news.length = m * size) (hnews : ∀ j u, news[j]? = some u → w.cell? (ad.add j) = some u) (h1 : ∀ u ∈ news, u.oneCell' = true)
    (h63 : n + m ≤ maxLen) (hbytes : (n + m) * bytes ≤ 140737488355328) (hbase : base ≤ w.heap.size)
    (h : ∀ v' w', w'.ownsRow base e size v' (n + m) (xs ++ news) → w.grownBy w' v.ownBlock → (∀ g, v'.ownBlock = some g → v.ownBlock = some g ∨ w.heap.size ≤ g) → wpList P ops Q rest (a.put o.dst v') w') : wpList P ops Q (o :: rest) a w :=
  wpList_plain hgd fun _ hK => wp_append_apart w s x t ho base e i z size bytes ht hi hz hsize hby hzs hsz v n xs hs hown ad m c news hx hl hnews h1 h63 hbytes hbase fun v' w' h2 h3 h4 => hK _ _ (h v' w' h2 h3 h4)
theorem apart_later {w : World} {o : Obj} {v v' : Value} (h : ∀ g, v'.ownBlock = some g → v.ownBlock = some g ∨ (w.drew.alloc o).heap.size ≤ g) : ∀ g, v'.ownBlock = some g → v.ownBlock = some g ∨ w.heap.size ≤ g := fun g hg => by
  rcases h g hg with h | h
  · exact .inl h
  · have h2 : (w.drew.alloc o).heap.size = w.heap.size + 1 := by simp
    exact .inr (by omega)
end Go.Proofs.YtccjognnehoodafDoor

namespace Go.Proofs.YtccjognnehoodafDoor
open Go.RowKit

/-- Where the parts lie. -/
structure CLay where
  dv : Value
  B : Nat
  D : Nat
  W : Nat
  hr : Int → Option Value
  hw : Int → Option Value
def CLay.rv (c : CLay) (d : Int) : Value := (c.hr d).getD (.slice none 0 0)
def CLay.wv (c : CLay) (d : Int) : Value := (c.hw d).getD (.slice none 0 0)
def cpart (R : Nat) (c : CLay) (i k : Nat) : Prop :=
  match i with
  | 0 => k = R
  | 1 => c.dv.ownBlock = some k
  | 2 => k = c.B
  | 3 => k = c.D
  | 4 => k = c.W
  | d + 5 => if d < 7 then (c.rv (d : Int)).ownBlock = some k else (c.wv ((d - 7 : Nat) : Int)).ownBlock = some k
theorem cpart_r (R : Nat) (c : CLay) {d : Nat} (hd : d < 7) (k : Nat) : cpart R c (d + 5) k ↔ (c.rv (d : Int)).ownBlock = some k := by show (if d < 7 then _ else _) ↔ _; rw [if_pos hd]
theorem cpart_w (R : Nat) (c : CLay) (d : Nat) (k : Nat) : cpart R c (d + 12) k ↔ (c.wv (d : Int)).ownBlock = some k := by
  show (if d + 7 < 7 then (c.rv ((d + 7 : Nat) : Int)).ownBlock = some k else (c.wv ((d + 7 - 7 : Nat) : Int)).ownBlock = some k) ↔ _
  rw [if_neg (by omega), show d + 7 - 7 = d by omega]
def crsCells (S F : Value) (c : CLay) : Array Value := #[S, F, c.dv, .map (some c.B), .map (some c.D), .map (some c.W)]
def begM (b : Int → Option Nat) (t : Int) : Option Value := (b t).map fun n => Value.int .i64 (n : Int)
structure CrsAt (w0 w : World) (R : Nat) (S F : Value) (q : Crs) (c : CLay) : Prop where
  blk : w.heap[R]? = some (.cells (crsCells S F c) 82 (0, 0))
  done : w.ownsRow w0.heap.size 3 1 c.dv q.done.length (q.done.map (Value.int .i64))
  beg : ∃ m, MapIs w c.B (begM q.began) m
  rd : ∃ m, MapIs w c.D c.hr m
  wr : ∃ m, MapIs w c.W c.hw m
  rrow : ∀ d : Nat, d < 7 → w.ownsRow w0.heap.size 63 3 (c.rv (d : Int)) (q.read (d : Int)).length (flat (q.read (d : Int)))
  wrow : ∀ d : Nat, d < 7 → w.ownsRow w0.heap.size 3 1 (c.wv (d : Int)) (q.wrote (d : Int)).length ((q.wrote (d : Int)).map (Value.int .i64))
  apart : ∀ i j k, i < 19 → j < 19 → i ≠ j → cpart R c i k → cpart R c j k → False
  news : ∀ i k, i < 19 → cpart R c i k → w0.heap.size ≤ k
  old : Below w0.heap.size w0 w
def cofs (R : Nat) (c : CLay) (J : Nat → Prop) (k : Nat) : Prop := ∃ i, i < 19 ∧ J i ∧ cpart R c i k
section
variable {w0 w w1 : World} {R : Nat} {S F : Value} {q q1 : Crs} {c c1 : CLay} {G J : Nat → Prop}
theorem CrsAt.lt (h : CrsAt w0 w R S F q c) : R < w.heap.size := (Array.getElem?_eq_some_iff.1 h.blk).1
theorem CrsAt.part_lt (h : CrsAt w0 w R S F q c) : ∀ i k, i < 19 → cpart R c i k → k < w.heap.size := by
  intro i k hi hk
  match i, hk with
  | 0, hk => rw [show k = R from hk]; exact h.lt
  | 1, hk => exact (h.done.lt k hk).2
  | 2, hk => rw [show k = c.B from hk]; exact h.beg.elim fun _ h => h.lt
  | 3, hk => rw [show k = c.D from hk]; exact h.rd.elim fun _ h => h.lt
  | 4, hk => rw [show k = c.W from hk]; exact h.wr.elim fun _ h => h.lt
  | d + 5, hk =>
    by_cases hd : d < 7
    · exact ((h.rrow d hd).lt k ((cpart_r R c hd k).1 hk)).2
    · obtain ⟨e, rfl⟩ : ∃ e, d = e + 7 := ⟨d - 7, by omega⟩
      exact ((h.wrow e (by omega)).lt k ((cpart_w R c e k).1 hk)).2
theorem CrsAt.keep (h : CrsAt w0 w R S F q c) {i : Nat} (hi : i < 19) (hj : ¬ J i) : ∀ k, cpart R c i k → ¬ cofs R c J k := fun k hk ⟨j, hj1, hj2, hj3⟩ => h.apart i j k hi hj1 (fun e => hj (e ▸ hj2)) hk hj3
theorem CrsAt.blkT (h : CrsAt w0 w R S F q c) (ht : Turns G w w1) (hF : ∀ k, cpart R c 0 k → ¬ G k) : w1.heap[R]? = some (.cells (crsCells S F c) 82 (0, 0)) := (ht.block R h.lt (hF R rfl)).trans h.blk
theorem CrsAt.doneT (h : CrsAt w0 w R S F q c) (ht : Turns G w w1) (hF : ∀ k, cpart R c 1 k → ¬ G k) : w1.ownsRow w0.heap.size 3 1 c.dv q.done.length (q.done.map (Value.int .i64)) := ht.own h.done fun k hk => hF k hk
theorem CrsAt.begT (h : CrsAt w0 w R S F q c) (ht : Turns G w w1) (hF : ∀ k, cpart R c 2 k → ¬ G k) : ∃ m, MapIs w1 c.B (begM q.began) m := h.beg.elim fun m h1 => ⟨m, h1.turn ht (hF _ rfl)⟩
theorem CrsAt.rdT (h : CrsAt w0 w R S F q c) (ht : Turns G w w1) (hF : ∀ k, cpart R c 3 k → ¬ G k) : ∃ m, MapIs w1 c.D c.hr m := h.rd.elim fun m h1 => ⟨m, h1.turn ht (hF _ rfl)⟩
theorem CrsAt.wrT (h : CrsAt w0 w R S F q c) (ht : Turns G w w1) (hF : ∀ k, cpart R c 4 k → ¬ G k) : ∃ m, MapIs w1 c.W c.hw m := h.wr.elim fun m h1 => ⟨m, h1.turn ht (hF _ rfl)⟩
theorem CrsAt.rrowT (h : CrsAt w0 w R S F q c) (ht : Turns G w w1) {d : Nat} (hd : d < 7) (hF : ∀ k, cpart R c (d + 5) k → ¬ G k) : w1.ownsRow w0.heap.size 63 3 (c.rv (d : Int)) (q.read (d : Int)).length (flat (q.read (d : Int))) := ht.own (h.rrow d hd) fun k hk => hF k ((cpart_r R c hd k).2 hk)
theorem CrsAt.wrowT (h : CrsAt w0 w R S F q c) (ht : Turns G w w1) {d : Nat} (hd : d < 7) (hF : ∀ k, cpart R c (d + 12) k → ¬ G k) : w1.ownsRow w0.heap.size 3 1 (c.wv (d : Int)) (q.wrote (d : Int)).length ((q.wrote (d : Int)).map (Value.int .i64)) := ht.own (h.wrow d hd) fun k hk => hF k ((cpart_w R c d k).2 hk)
/-- Some parts have turned, one of them lies otherwise. -/
theorem CrsAt.change (h : CrsAt w0 w R S F q c) (m : Nat) (ht : Turns (cofs R c J) w w1) (hsame : ∀ i, i < 19 → i ≠ m → ∀ k, cpart R c1 i k → cpart R c i k) (hm : ∀ k, cpart R c1 m k → cpart R c m k ∨ w.heap.size ≤ k)
    (blk : w1.heap[R]? = some (.cells (crsCells S F c1) 82 (0, 0))) (done : w1.ownsRow w0.heap.size 3 1 c1.dv q1.done.length (q1.done.map (Value.int .i64))) (beg : ∃ m, MapIs w1 c1.B (begM q1.began) m) (rd : ∃ m, MapIs w1 c1.D c1.hr m) (wr : ∃ m, MapIs w1 c1.W c1.hw m)
    (rrow : ∀ d : Nat, d < 7 → w1.ownsRow w0.heap.size 63 3 (c1.rv (d : Int)) (q1.read (d : Int)).length (flat (q1.read (d : Int)))) (wrow : ∀ d : Nat, d < 7 → w1.ownsRow w0.heap.size 3 1 (c1.wv (d : Int)) (q1.wrote (d : Int)).length ((q1.wrote (d : Int)).map (Value.int .i64))) : CrsAt w0 w1 R S F q1 c1 := by
  have hp : ∀ i k, i < 19 → cpart R c1 i k → cpart R c i k ∨ (i = m ∧ w.heap.size ≤ k) := fun i k hi hk => by
    by_cases e : i = m
    · subst e
      rcases hm k hk with h1 | h1
      · exact .inl h1
      · exact .inr ⟨rfl, h1⟩
    · exact .inl (hsame i hi e k hk)
  refine ⟨blk, done, beg, rd, wr, rrow, wrow, fun i j k hi hj hij h1 h2 => ?_, fun i k hi hk => ?_, h.old.trans (ht.below h.old.size fun k hk hf => ?_)⟩
  · rcases hp i k hi h1 with h3 | ⟨h3, h4⟩
    · rcases hp j k hj h2 with h5 | ⟨h5, h6⟩
      · exact h.apart i j k hi hj hij h3 h5
      · have := h.part_lt i k hi h3; omega
    · rcases hp j k hj h2 with h5 | ⟨h5, h6⟩
      · have := h.part_lt j k hj h5; omega
      · exact hij (h3.trans h5.symm)
  · rcases hp i k hi hk with h3 | ⟨_, h3⟩
    · exact h.news i k hi h3
    · exact Nat.le_trans h.old.size h3
  · obtain ⟨i, hi, _, hk2⟩ := hf
    have := h.news i k hi hk2
    omega
theorem CrsAt.below (h : CrsAt w0 w R S F q c) (hb : Below w.heap.size w w1) : CrsAt w0 w1 R S F q c :=
  have ht : Turns (cofs R c fun _ => False) w w1 := Turns.of_below hb
  h.change (c1 := c) 0 ht (fun _ _ _ _ hk => hk) (fun _ hk => .inl hk) (h.blkT ht (h.keep (by omega) (fun hf => hf))) (h.doneT ht (h.keep (by omega) (fun hf => hf))) (h.begT ht (h.keep (by omega) (fun hf => hf))) (h.rdT ht (h.keep (by omega) (fun hf => hf))) (h.wrT ht (h.keep (by omega) (fun hf => hf)))
    (fun d hd => h.rrowT ht hd (h.keep (by omega) (fun hf => hf))) fun d hd => h.wrowT ht hd (h.keep (by omega) (fun hf => hf))
theorem CrsAt.drew (h : CrsAt w0 w R S F q c) : CrsAt w0 w.drew R S F q c := h.below (Below.refl _ w).drew
theorem CrsAt.alloc (h : CrsAt w0 w R S F q c) (o : Obj) : CrsAt w0 (w.alloc o) R S F q c := h.below ((Below.refl _ w).alloc (Nat.le_refl _) o)
end
section
variable {w0 w w1 : World} {R : Nat} {S F : Value} {q : Crs} {c : CLay}
theorem CrsAt.cell (h : CrsAt w0 w R S F q c) (k : Nat) : w.cell? ⟨R, k, none⟩ = (crsCells S F c)[k]? := by rw [cell_of_row w R _ _ _ _ h.blk]
theorem CrsAt.c0 (h : CrsAt w0 w R S F q c) : w.cell? ⟨R, 0, none⟩ = some S := h.cell 0
theorem CrsAt.c1 (h : CrsAt w0 w R S F q c) : w.cell? ⟨R, 1, none⟩ = some F := h.cell 1
theorem CrsAt.c2 (h : CrsAt w0 w R S F q c) : w.cell? ⟨R, 2, none⟩ = some c.dv := h.cell 2
theorem CrsAt.c3 (h : CrsAt w0 w R S F q c) : w.cell? ⟨R, 3, none⟩ = some (.map (some c.B)) := h.cell 3
theorem CrsAt.c4 (h : CrsAt w0 w R S F q c) : w.cell? ⟨R, 4, none⟩ = some (.map (some c.D)) := h.cell 4
theorem CrsAt.c5 (h : CrsAt w0 w R S F q c) : w.cell? ⟨R, 5, none⟩ = some (.map (some c.W)) := h.cell 5
theorem CrsAt.thaw (h : CrsAt w0 w R S F q c) (k : Nat) : w.frozen? ⟨R, k, none⟩ = false := by simp [World.frozen?, h.blk]
/-- A deal has begun. -/
theorem CrsAt.setBeg {m : Nat} {b : Int → Option Nat} (h : CrsAt w0 w R S F q c) (hp : MapIs w1 c.B (begM b) m) (ht : Turns (fun k => k = c.B) w w1) : CrsAt w0 w1 R S F { q with began := b } c := by
  have ht2 : Turns (cofs R c fun j => j = 2) w w1 := ht.mono fun _ _ hk => ⟨2, by omega, rfl, hk⟩
  exact h.change (c1 := c) 2 ht2 (fun _ _ _ _ hk => hk) (fun _ hk => .inl hk) (h.blkT ht2 (h.keep (by omega) (by omega))) (h.doneT ht2 (h.keep (by omega) (by omega))) ⟨m, hp⟩ (h.rdT ht2 (h.keep (by omega) (by omega))) (h.wrT ht2 (h.keep (by omega) (by omega)))
    (fun d hd => h.rrowT ht2 hd (h.keep (by omega) (by omega))) fun d hd => h.wrowT ht2 hd (h.keep (by omega) (by omega))
/-- One more is done. -/
theorem CrsAt.pushDone {v : Value} {t : Int} (h : CrsAt w0 w R S F q c) (ht : Turns (fun k => c.dv.ownBlock = some k) w w1) (hv : w1.ownsRow w0.heap.size 3 1 v (q.done.length + 1) (q.done.map (Value.int .i64) ++ [.int .i64 t])) (hap : ∀ g, v.ownBlock = some g → c.dv.ownBlock = some g ∨ w.heap.size ≤ g) :
    w1.cell? ⟨R, 2, none⟩ = some c.dv ∧ w1.frozen? ⟨R, 2, none⟩ = false ∧ CrsAt w0 (w1.setCell ⟨R, 2, none⟩ v) R S F (doneQ q t) { c with dv := v } := by
  have hn : ¬ c.dv.ownBlock = some R := fun e => h.apart 0 1 R (by omega) (by omega) (by decide) rfl e
  have hb1 : w1.heap[R]? = some (.cells (crsCells S F c) 82 (0, 0)) := (ht.block R h.lt hn).trans h.blk
  have ht2 : Turns (cofs R c fun j => j = 0 ∨ j = 1) w (w1.setCell ⟨R, 2, none⟩ v) := (ht.mono fun k _ hk => ⟨1, by omega, .inr rfl, hk⟩).setCell (.inl ⟨0, by omega, .inl rfl, rfl⟩) v
  have hR : ¬ v.ownBlock = some R := fun e => by
    rcases hap R e with h1 | h1
    · exact hn h1
    · have := h.lt; omega
  have hset : Turns (fun k => k = R) w1 (w1.setCell ⟨R, 2, none⟩ v) := by
    refine Turns.setCell (Turns.refl _ w1) ?_ _
    exact .inl rfl
  refine ⟨by rw [cell_of_row w1 R _ _ _ _ hb1]; rfl, by simp [World.frozen?, hb1], h.change (c1 := { c with dv := v }) 1 ht2 (fun i hi hne k hk => ?_) (fun k hk => hap k hk) ?_ ?_ (h.begT ht2 (h.keep (by omega) (by omega))) (h.rdT ht2 (h.keep (by omega) (by omega))) (h.wrT ht2 (h.keep (by omega) (by omega)))
    (fun d hd => h.rrowT ht2 hd (h.keep (by omega) (by omega))) fun d hd => h.wrowT ht2 hd (h.keep (by omega) (by omega))⟩
  · match i, hne, hk with
    | 0, _, hk => exact hk
    | 1, hne, _ => exact absurd rfl hne
    | 2, _, hk => exact hk
    | 3, _, hk => exact hk
    | 4, _, hk => exact hk
    | d + 5, _, hk => exact hk
  · rw [block_set hb1]; rfl
  · show World.ownsRow _ _ _ _ v (q.done ++ [t]).length ((q.done ++ [t]).map _)
    rw [List.length_append, List.map_append]
    exact hset.own hv fun g hg e => hR (e ▸ hg)
theorem rv_same (c : CLay) (d : Int) (x : Option Value) : ({ c with hr := setF c.hr d x } : CLay).rv d = x.getD (.slice none 0 0) := by show (setF c.hr d x d).getD _ = _; rw [setF_same]
theorem rv_other (c : CLay) {d e : Int} (x : Option Value) (hne : e ≠ d) : ({ c with hr := setF c.hr d x } : CLay).rv e = c.rv e := by show (setF c.hr d x e).getD _ = _; rw [setF_other _ _ hne]; rfl
theorem wv_same (c : CLay) (d : Int) (x : Option Value) : ({ c with hw := setF c.hw d x } : CLay).wv d = x.getD (.slice none 0 0) := by show (setF c.hw d x d).getD _ = _; rw [setF_same]
theorem wv_other (c : CLay) {d e : Int} (x : Option Value) (hne : e ≠ d) : ({ c with hw := setF c.hw d x } : CLay).wv e = c.wv e := by show (setF c.hw d x e).getD _ = _; rw [setF_other _ _ hne]; rfl
/-- A deal read something more. w2: its row has turned; w1: the map has. -/
theorem CrsAt.pushRead {w2 : World} {m d : Nat} {v : Value} {x : Op3} (hd : d < 7) (hx : x.1 = (d : Int)) (h : CrsAt w0 w R S F q c) (ht0 : Turns (fun k => (c.rv (d : Int)).ownBlock = some k) w w2) (hp : MapIs w1 c.D (setF c.hr (d : Int) (some v)) m) (ht : Turns (fun k => k = c.D) w2 w1)
    (hv : w2.ownsRow w0.heap.size 63 3 v ((q.read (d : Int)).length + 1) (flat (q.read (d : Int)) ++ flat [x])) (hap : ∀ k, v.ownBlock = some k → (c.rv (d : Int)).ownBlock = some k ∨ w.heap.size ≤ k) : CrsAt w0 w1 R S F (readQ q x) { c with hr := setF c.hr (d : Int) (some v) } := by
  have ht2 : Turns (cofs R c fun j => j = 3 ∨ j = d + 5) w w1 := (ht0.mono fun k _ hk => ⟨d + 5, by omega, .inr rfl, (cpart_r R c hd k).2 hk⟩).trans ht fun k _ hk => ⟨3, by omega, .inl rfl, hk⟩
  have hB : ∀ k, v.ownBlock = some k → k ≠ c.D := fun k hk e => by
    rcases hap k hk with h1 | h1
    · exact h.apart (d + 5) 3 k (by omega) (by omega) (by omega) ((cpart_r R c hd k).2 h1) e
    · have := h.rd.elim fun _ h => h.lt
      omega
  refine h.change (c1 := { c with hr := setF c.hr (d : Int) (some v) }) (d + 5) ht2 (fun i hi hne k hk => ?_) (fun k hk => ?_) (h.blkT ht2 (h.keep (by omega) (by omega))) (h.doneT ht2 (h.keep (by omega) (by omega))) (h.begT ht2 (h.keep (by omega) (by omega))) ⟨m, hp⟩ (h.wrT ht2 (h.keep (by omega) (by omega)))
    (fun e he => ?_) fun d hd => h.wrowT ht2 hd (h.keep (by omega) (by omega))
  · match i, hne, hk with
    | 0, _, hk => exact hk
    | 1, _, hk => exact hk
    | 2, _, hk => exact hk
    | 3, _, hk => exact hk
    | 4, _, hk => exact hk
    | e + 5, hne, hk =>
      by_cases he : e < 7
      · have hk' := (cpart_r R _ he k).1 hk
        rw [rv_other c _ (by omega)] at hk'
        exact (cpart_r R c he k).2 hk'
      · obtain ⟨g, rfl⟩ : ∃ g, e = g + 7 := ⟨e - 7, by omega⟩
        have hk' := (cpart_w R _ g k).1 hk; exact (cpart_w R c g k).2 hk'
  · have hk' := (cpart_r R _ hd k).1 hk
    rw [rv_same] at hk'
    rcases hap k hk' with h1 | h1
    · exact .inl ((cpart_r R c hd k).2 h1)
    · exact .inr h1
  · show World.ownsRow w1 _ _ 3 _ (setF q.read x.1 (q.read x.1 ++ [x]) (e : Int)).length (flat (setF q.read x.1 (q.read x.1 ++ [x]) (e : Int)))
    rw [hx]
    by_cases e1 : e = d
    · subst e1
      rw [rv_same, setF_same, List.length_append, flat_append]
      exact ht.own hv fun k hk e2 => hB k hk e2
    · rw [rv_other c _ (by omega), setF_other _ _ (by omega)]
      exact h.rrowT ht2 he (h.keep (by omega) (by omega))
/-- A deal wrote something more. -/
theorem CrsAt.pushWrote {w2 : World} {m d : Nat} {v : Value} {x : Int} (hd : d < 7) (h : CrsAt w0 w R S F q c) (ht0 : Turns (fun k => (c.wv (d : Int)).ownBlock = some k) w w2) (hp : MapIs w1 c.W (setF c.hw (d : Int) (some v)) m) (ht : Turns (fun k => k = c.W) w2 w1)
    (hv : w2.ownsRow w0.heap.size 3 1 v ((q.wrote (d : Int)).length + 1) ((q.wrote (d : Int)).map (Value.int .i64) ++ [.int .i64 x])) (hap : ∀ k, v.ownBlock = some k → (c.wv (d : Int)).ownBlock = some k ∨ w.heap.size ≤ k) : CrsAt w0 w1 R S F (writeQ q (d : Int) x) { c with hw := setF c.hw (d : Int) (some v) } := by
  have ht2 : Turns (cofs R c fun j => j = 4 ∨ j = d + 12) w w1 := (ht0.mono fun k _ hk => ⟨d + 12, by omega, .inr rfl, (cpart_w R c d k).2 hk⟩).trans ht fun k _ hk => ⟨4, by omega, .inl rfl, hk⟩
  have hB : ∀ k, v.ownBlock = some k → k ≠ c.W := fun k hk e => by
    rcases hap k hk with h1 | h1
    · exact h.apart (d + 12) 4 k (by omega) (by omega) (by omega) ((cpart_w R c d k).2 h1) e
    · have := h.wr.elim fun _ h => h.lt
      omega
  refine h.change (c1 := { c with hw := setF c.hw (d : Int) (some v) }) (d + 12) ht2 (fun i hi hne k hk => ?_) (fun k hk => ?_) (h.blkT ht2 (h.keep (by omega) (by omega))) (h.doneT ht2 (h.keep (by omega) (by omega))) (h.begT ht2 (h.keep (by omega) (by omega))) (h.rdT ht2 (h.keep (by omega) (by omega))) ⟨m, hp⟩
    (fun d hd => h.rrowT ht2 hd (h.keep (by omega) (by omega))) fun e he => ?_
  · match i, hne, hk with
    | 0, _, hk => exact hk
    | 1, _, hk => exact hk
    | 2, _, hk => exact hk
    | 3, _, hk => exact hk
    | 4, _, hk => exact hk
    | e + 5, hne, hk =>
      by_cases he : e < 7
      · have hk' := (cpart_r R _ he k).1 hk; exact (cpart_r R c he k).2 hk'
      · obtain ⟨g, rfl⟩ : ∃ g, e = g + 7 := ⟨e - 7, by omega⟩
        have hk' := (cpart_w R _ g k).1 hk
        rw [wv_other c _ (by omega)] at hk'
        exact (cpart_w R c g k).2 hk'
  · have hk' := (cpart_w R _ d k).1 hk
    rw [wv_same] at hk'
    rcases hap k hk' with h1 | h1
    · exact .inl ((cpart_w R c d k).2 h1)
    · exact .inr h1
  · show World.ownsRow w1 _ _ 1 _ (setF q.wrote (d : Int) (q.wrote (d : Int) ++ [x]) (e : Int)).length ((setF q.wrote (d : Int) (q.wrote (d : Int) ++ [x]) (e : Int)).map _)
    by_cases e1 : e = d
    · subst e1
      rw [wv_same, setF_same, List.length_append, List.map_append]
      exact ht.own hv fun k hk e2 => hB k hk e2
    · rw [wv_other c _ (by omega), setF_other _ _ (by omega)]
      exact h.wrowT ht2 he (h.keep (by omega) (by omega))
end
/-- As it is made. -/
theorem crs_made (w0 w : World) (hb : Below w0.heap.size w0 w) (S F : Value) : CrsAt w0 ((((w.alloc (.map #[] 0)).alloc (.map #[] 0)).alloc (.map #[] 0)).alloc (.cells #[S, F, .slice none 0 0, .map (some w.heap.size), .map (some (w.heap.size + 1)), .map (some (w.heap.size + 2))] 82)) (w.heap.size + 3) S F crs0 ⟨.slice none 0 0, w.heap.size, w.heap.size + 1, w.heap.size + 2, fun _ => none, fun _ => none⟩ := by
  obtain ⟨W1, hW1⟩ : ∃ W, W = w.alloc (.map #[] 0) := ⟨_, rfl⟩
  obtain ⟨W2, hW2⟩ : ∃ W, W = W1.alloc (.map #[] 0) := ⟨_, rfl⟩
  obtain ⟨W3, hW3⟩ : ∃ W, W = W2.alloc (.map #[] 0) := ⟨_, rfl⟩
  obtain ⟨W4, hW4⟩ : ∃ W, W = W3.alloc (.cells #[S, F, .slice none 0 0, .map (some w.heap.size), .map (some (w.heap.size + 1)), .map (some (w.heap.size + 2))] 82) := ⟨_, rfl⟩
  have s1 : W1.heap.size = w.heap.size + 1 := by rw [hW1]; simp
  have s2 : W2.heap.size = w.heap.size + 2 := by rw [hW2]; simp [s1]
  have s3 : W3.heap.size = w.heap.size + 3 := by rw [hW3]; simp [s2]
  have t1 : Turns (fun _ => False) w W1 := by rw [hW1]; exact (Turns.refl _ w).alloc _
  have t2 : Turns (fun _ => False) W1 W2 := by rw [hW2]; exact (Turns.refl _ W1).alloc _
  have t3 : Turns (fun _ => False) W2 W3 := by rw [hW3]; exact (Turns.refl _ W2).alloc _
  have t4 : Turns (fun _ => False) W3 W4 := by rw [hW4]; exact (Turns.refl _ W3).alloc _
  have m1 : MapIs W1 w.heap.size (fun _ => none) 0 := by rw [hW1]; exact mapIs_made w
  have m2 : MapIs W2 (w.heap.size + 1) (fun _ => none) 0 := by rw [hW2, ← s1]; exact mapIs_made W1
  have m3 : MapIs W3 (w.heap.size + 2) (fun _ => none) 0 := by rw [hW3, ← s2]; exact mapIs_made W2
  have hs := hb.size
  rw [← hW1, ← hW2, ← hW3, ← hW4]
  have t14 : Turns (fun _ => False) w W4 := ((t1.trans t2 fun _ _ hf => hf).trans t3 fun _ _ hf => hf).trans t4 fun _ _ hf => hf
  refine ⟨?_, World.ownsRow_nil _ _ _ _, ⟨0, ((m1.turn t2 (fun hf => hf)).turn t3 (fun hf => hf)).turn t4 (fun hf => hf)⟩, ⟨0, (m2.turn t3 (fun hf => hf)).turn t4 (fun hf => hf)⟩, ⟨0, m3.turn t4 (fun hf => hf)⟩, fun d _ => World.ownsRow_nil _ _ _ _, fun d _ => World.ownsRow_nil _ _ _ _, fun i j k hi hj hij h1 h2 => ?_, fun i k hi hk => ?_, hb.trans (t14.below hs fun _ _ hf => hf)⟩
  · rw [hW4, ← s3]
    exact heap_alloc_new W3 _
  · have key : ∀ i k, i < 19 → cpart (w.heap.size + 3) ⟨.slice none 0 0, w.heap.size, w.heap.size + 1, w.heap.size + 2, fun _ => none, fun _ => none⟩ i k → (i = 0 ∧ k = w.heap.size + 3) ∨ (i = 2 ∧ k = w.heap.size) ∨ (i = 3 ∧ k = w.heap.size + 1) ∨ (i = 4 ∧ k = w.heap.size + 2) := fun i k hi hk => by
      match i, hk with
      | 0, hk => exact .inl ⟨rfl, hk⟩
      | 1, hk => exact absurd hk (by simp [cpart, Value.ownBlock])
      | 2, hk => exact .inr (.inl ⟨rfl, hk⟩)
      | 3, hk => exact .inr (.inr (.inl ⟨rfl, hk⟩))
      | 4, hk => exact .inr (.inr (.inr ⟨rfl, hk⟩))
      | d + 5, hk => exact absurd hk (by simp [cpart, CLay.rv, CLay.wv, Value.ownBlock])
    have a := key i k hi h1
    have b := key j k hj h2
    omega
  · match i, hk with
    | 0, hk => rw [show k = _ from hk]; omega
    | 1, hk => exact absurd hk (by simp [cpart, Value.ownBlock])
    | 2, hk => rw [show k = _ from hk]; exact hs
    | 3, hk => rw [show k = _ from hk]; show w0.heap.size ≤ w.heap.size + 1; omega
    | 4, hk => rw [show k = _ from hk]; show w0.heap.size ≤ w.heap.size + 2; omega
    | d + 5, hk => exact absurd hk (by simp [cpart, CLay.rv, CLay.wv, Value.ownBlock])
end Go.Proofs.YtccjognnehoodafDoor
