/-
  PROVED HERE: append on a row of one's own, and where the row lies then: where it lay, or in a new block.
  Conditions: as the library's law of append has them.
  PROVED HERE: how a run of package course (two rules, who is done, three maps: when deals began, what each read, what each wrote) lies in memory that was made since a world: a block, three maps, fifteen rows, all apart; what becomes of it when one of its parts is set.
  Conditions: none.
  PROVED HERE: what package course and the rules of its runs call of Go's library, at their types: slices.Index, slices.Contains and slices.Clone of whole numbers, slices.Clone of what was seen, slices.IndexFunc and slices.ContainsFunc for any closure. Old memory stays as it was.
  Conditions: the lists are short; what the closure answers is a premise.
  PROVED HERE: what a run of package course (as it lies in memory) answers to those that ask it: whether a deal wrote an item, what it read and wrote, who committed, who did since it began. Old memory stays as it was.
  Conditions: the deal's number is 1 to 6; the lists are short.
-/
import Derived.WalkKit
import Derived.WalkSpells
import Derived.Handy
import Derived.Deep.RegionLaw
import Derived.Laws.AppendOwn
import Derived.ArgAppend
import Derived.Test.YtccjognnehoodahGreatMgaw
import Derived.Test.YtccjognnehoodahGreatMgac
import Derived.Test.YtccjognnehoodahGreatMgad
import Derived.Test.YtccjognnehoodahGreatMgai
import Derived.Test.YtccjognnehoodahGreatMgaq
import Derived.Deep.Cut
import Derived.Deep.RegionHeld3
namespace Go.Proofs.YtccjognnehoodahGreat
open Go.RowKit

theorem row_less {w : World} {base base2 e size n : Nat} {v : Value} {xs : List Value} (h : w.ownsRow base e size v n xs) (hb : base2 ≤ base) : w.ownsRow base2 e size v n xs := by
  obtain ⟨hl, hd | ⟨g, cap, cur, hv, hbg, hg, hn, hm, hsz, htk⟩⟩ := h
  · exact ⟨hl, .inl hd⟩
  · exact ⟨hl, .inr ⟨g, cap, cur, hv, Nat.le_trans hb hbg, hg, hn, hm, hsz, htk⟩⟩
theorem run_append_apart {P : Program} (w : World) (base : Nat) (t ty e : TypeId) (i : TypeInfo) (z : Value) (size bytes : Nat) (ht : P.underlying t = some (.slice e)) (hi : P.info? e = some i) (hz : i.zero = some z)
    (hsize : i.size = size) (hby : i.bytes = bytes) (hzs : z.cells.size = size) (hsz : 0 < size)
    (v : Value) (n : Nat) (xs : List Value) (hown : w.ownsRow base e size v n xs)
    (a : Addr) (m c : Nat) (news : List Value) (hl : news.length = m * size) (hnews : ∀ j u, news[j]? = some u → w.cell? (a.add j) = some u) (h1 : ∀ u ∈ news, u.oneCell' = true)
    (h63 : n + m ≤ maxLen) (hbytes : (n + m) * bytes ≤ 140737488355328) (hbase : base ≤ w.heap.size) :
    ∃ v' w', (Builtin.append_ #[t, t] ty #[v, .slice (some a) m c]).run P w = .ok v' w' ∧ w'.ownsRow base e size v' (n + m) (xs ++ news) ∧ w.grownBy w' v.ownBlock ∧
      ∀ g, v'.ownBlock = some g → v.ownBlock = some g ∨ w.heap.size ≤ g := by
  have hown' := hown
  rcases hown.2 with ⟨rfl, rfl⟩ | ⟨g, cap, cur, rfl, hbg, hg, hnc, hcm, hcs, htake⟩
  · have hx : xs = [] := List.eq_nil_of_length_eq_zero (by simpa using hown.1)
    subst hx
    obtain ⟨v', w', hr, ho, hgr, -⟩ := run_append_own (P := P) w w.heap.size t ty e i z size bytes ht hi hz hsize hby hzs hsz (.slice none 0 0) 0 [] (World.ownsRow_nil w _ e size) a m c news hl hnews h1 h63 hbytes (Nat.le_refl _)
    exact ⟨v', w', hr, row_less ho hbase, hgr, fun g hg => .inr (ho.lt g hg).1⟩
  · by_cases hroom : n + m ≤ cap
    · obtain ⟨v', w', hr, ho, hgr, -⟩ := run_append_own (P := P) w base t ty e i z size bytes ht hi hz hsize hby hzs hsz (.slice (some ⟨g, 0, none⟩) n cap) n xs hown' a m c news hl hnews h1 h63 hbytes hbase
      subst hsize
      have hfit : n * i.size + news.length ≤ cur.size := by rw [hl, hcs, ← Nat.add_mul]; exact Nat.mul_le_mul_right _ hroom
      have hr2 := run_append_room (P := P) w t ty e i ht hi g n cap cur hg a m c news hl hnews h1 hroom hfit
      rw [hr2] at hr
      injection hr with e1 e2
      subst e1
      exact ⟨_, w', by rw [hr2, e2], ho, hgr, fun q hq => .inl (by simpa [Value.ownBlock] using hq)⟩
    · obtain ⟨v', w', hr, ho, hgr⟩ := run_append_arg_grows (P := P) w t ty e i z size bytes ht hi hz hsize hby hzs hsz ⟨g, 0, none⟩ n cap xs hown.1 (hown.cells (g := g) rfl) a m c news hl hnews (by omega) h63 hbytes
      exact ⟨v', w', hr, row_less ho hbase, ⟨hgr.os, hgr.tape, hgr.output, hgr.size, fun k hk _ => hgr.block k hk (by simp)⟩, fun q hq => .inr (ho.lt q hq).1⟩
theorem wp_append_apart {P : Program} {o : Oper} {a : Act} (w : World) {K : Act → World → Prop} {Q : Exit → Act → World → Prop} (s x : Operand) (t : TypeId)
    (ho : o.op = .call { callee := .builtin .append, args := #[s, x], argTypes := #[t, t] })
    (base : Nat) (e : TypeId) (i : TypeInfo) (z : Value) (size bytes : Nat) (ht : P.underlying t = some (.slice e)) (hi : P.info? e = some i) (hz : i.zero = some z)
    (hsize : i.size = size) (hby : i.bytes = bytes) (hzs : z.cells.size = size) (hsz : 0 < size)
    (v : Value) (n : Nat) (xs : List Value) (hs : a.eval s = v) (hown : w.ownsRow base e size v n xs)
    (ad : Addr) (m c : Nat) (news : List Value) (hx : a.eval x = .slice (some ad) m c) (hl : news.length = m * size) (hnews : ∀ j u, news[j]? = some u → w.cell? (ad.add j) = some u) (h1 : ∀ u ∈ news, u.oneCell' = true)
    (h63 : n + m ≤ maxLen) (hbytes : (n + m) * bytes ≤ 140737488355328) (hbase : base ≤ w.heap.size)
    (h : ∀ v' w', w'.ownsRow base e size v' (n + m) (xs ++ news) → w.grownBy w' v.ownBlock → (∀ g, v'.ownBlock = some g → v.ownBlock = some g ∨ w.heap.size ≤ g) → K (a.put o.dst v') w') : o.wp P a w K Q := by
  obtain ⟨v', w', hr, h2, h3, h4⟩ := run_append_apart (P := P) w base t o.type e i z size bytes ht hi hz hsize hby hzs hsz v n xs hown ad m c news hl hnews h1 h63 hbytes hbase
  unfold Oper.wp execOp
  simp only [ho, resolve, invoke, builtin, Sem.run_bind, Sem.run_pure, Result.andThen_ok, List.map_toArray, List.map_cons, List.map_nil, hs, hx, hr]
  exact h v' w' h2 h3 h4
/-- As one step of a region that draws. -/
theorem step_append_apart {P : Program} {ops : Array Oper} {o : Oper} {a : Act} {w : World} {K : Act → World → Prop} {Q : Exit → Act → World → Prop} {E : Prop}
    (hgd : o.guard = none) (s x : Operand) (t : TypeId) (ho : o.op = .call { callee := .builtin .append, args := #[s, x], argTypes := #[t, t] })
    (base : Nat) (e : TypeId) (i : TypeInfo) (z : Value) (size bytes : Nat) (ht : P.underlying t = some (.slice e)) (hi : P.info? e = some i) (hz : i.zero = some z)
    (hsize : i.size = size) (hby : i.bytes = bytes) (hzs : z.cells.size = size) (hsz : 0 < size)
    (v : Value) (n : Nat) (xs : List Value) (hs : a.eval s = v) (hown : w.ownsRow base e size v n xs)
    (ad : Addr) (m c : Nat) (news : List Value) (hx : a.eval x = .slice (some ad) m c) (hl : news.length = m * size) (hnews : ∀ j u, news[j]? = some u → w.cell? (ad.add j) = some u) (h1 : ∀ u ∈ news, u.oneCell' = true)
    (h63 : n + m ≤ maxLen) (hbytes : (n + m) * bytes ≤ 140737488355328) (hbase : base ≤ w.heap.size)
    (h : ∀ v' w', w'.ownsRow base e size v' (n + m) (xs ++ news) → w.grownBy w' v.ownBlock → (∀ g, v'.ownBlock = some g → v.ownBlock = some g ∨ w.heap.size ≤ g) → K (a.put o.dst v') w') :
    if Region.wanted o (yielded ops a.tmps) = true then Oper.wp P o a w K Q else E := by
  have hw : Region.wanted o (yielded ops a.tmps) = true := by simp [Region.wanted, hgd]
  rw [if_pos hw]
  exact wp_append_apart w s x t ho base e i z size bytes ht hi hz hsize hby hzs hsz v n xs hs hown ad m c news hx hl hnews h1 h63 hbytes hbase h
/-- As an operation of a region in the text's order. -/
theorem wpList_append_apart {P : Program} (w : World) {ops : Array Oper} {rest : List Oper} {o : Oper} {a : Act} {Q : Exit → Act → World → Prop} (hgd : o.guard = none) (s x : Operand) (t : TypeId)
    (ho : o.op = .call { callee := .builtin .append, args := #[s, x], argTypes := #[t, t] })
    (base : Nat) (e : TypeId) (i : TypeInfo) (z : Value) (size bytes : Nat) (ht : P.underlying t = some (.slice e)) (hi : P.info? e = some i) (hz : i.zero = some z)
    (hsize : i.size = size) (hby : i.bytes = bytes) (hzs : z.cells.size = size) (hsz : 0 < size)
    (v : Value) (n : Nat) (xs : List Value) (hs : a.eval s = v) (hown : w.ownsRow base e size v n xs)
    (ad : Addr) (m c : Nat) (news : List Value) (hx : a.eval x = .slice (some ad) m c) (hl : news.length = m * size) (hnews : ∀ j u, news[j]? = some u → w.cell? (ad.add j) = some u) (h1 : ∀ u ∈ news, u.oneCell' = true)
    (h63 : n + m ≤ maxLen) (hbytes : (n + m) * bytes ≤ 140737488355328) (hbase : base ≤ w.heap.size)
    (h : ∀ v' w', w'.ownsRow base e size v' (n + m) (xs ++ news) → w.grownBy w' v.ownBlock → (∀ g, v'.ownBlock = some g → v.ownBlock = some g ∨ w.heap.size ≤ g) → wpList P ops Q rest (a.put o.dst v') w') : wpList P ops Q (o :: rest) a w :=
  wpList_plain hgd fun _ hK => wp_append_apart w s x t ho base e i z size bytes ht hi hz hsize hby hzs hsz v n xs hs hown ad m c news hx hl hnews h1 h63 hbytes hbase fun v' w' h2 h3 h4 => hK _ _ (h v' w' h2 h3 h4)
theorem apart_later {w : World} {o : Obj} {v v' : Value} (h : ∀ g, v'.ownBlock = some g → v.ownBlock = some g ∨ (w.drew.alloc o).heap.size ≤ g) : ∀ g, v'.ownBlock = some g → v.ownBlock = some g ∨ w.heap.size ≤ g := fun g hg => by
  rcases h g hg with h | h
  · exact .inl h
  · have h2 : (w.drew.alloc o).heap.size = w.heap.size + 1 := by simp
    exact .inr (by omega)
end Go.Proofs.YtccjognnehoodahGreat

namespace Go.Proofs.YtccjognnehoodahGreat
open Go.RowKit

/-- Where the parts lie. -/
structure CLay where
  dv : Value
  B : Nat
  D : Nat
  W : Nat
  hr : Int → Option Value
  hw : Int → Option Value
def CLay.rv (c : CLay) (d : Int) : Value := (c.hr d).getD (.slice none 0 0)
def CLay.wv (c : CLay) (d : Int) : Value := (c.hw d).getD (.slice none 0 0)
def cpart (R : Nat) (c : CLay) (i k : Nat) : Prop :=
  match i with
  | 0 => k = R
  | 1 => c.dv.ownBlock = some k
  | 2 => k = c.B
  | 3 => k = c.D
  | 4 => k = c.W
  | d + 5 => if d < 7 then (c.rv (d : Int)).ownBlock = some k else (c.wv ((d - 7 : Nat) : Int)).ownBlock = some k
theorem cpart_r (R : Nat) (c : CLay) {d : Nat} (hd : d < 7) (k : Nat) : cpart R c (d + 5) k ↔ (c.rv (d : Int)).ownBlock = some k := by show (if d < 7 then _ else _) ↔ _; rw [if_pos hd]
theorem cpart_w (R : Nat) (c : CLay) (d : Nat) (k : Nat) : cpart R c (d + 12) k ↔ (c.wv (d : Int)).ownBlock = some k := by
  show (if d + 7 < 7 then (c.rv ((d + 7 : Nat) : Int)).ownBlock = some k else (c.wv ((d + 7 - 7 : Nat) : Int)).ownBlock = some k) ↔ _
  rw [if_neg (by omega), show d + 7 - 7 = d by omega]
def crsCells (S F : Value) (c : CLay) : Array Value := #[S, F, c.dv, .map (some c.B), .map (some c.D), .map (some c.W)]
def begM (b : Int → Option Nat) (t : Int) : Option Value := (b t).map fun n => Value.int .i64 (n : Int)
structure CrsAt (w0 w : World) (R : Nat) (S F : Value) (q : Crs) (c : CLay) : Prop where
  blk : w.heap[R]? = some (.cells (crsCells S F c) 117 (0, 0))
  done : w.ownsRow w0.heap.size 3 1 c.dv q.done.length (q.done.map (Value.int .i64))
  beg : ∃ m, MapIs w c.B (begM q.began) m
  rd : ∃ m, MapIs w c.D c.hr m
  wr : ∃ m, MapIs w c.W c.hw m
  rrow : ∀ d : Nat, d < 7 → w.ownsRow w0.heap.size 47 3 (c.rv (d : Int)) (q.read (d : Int)).length (flat (q.read (d : Int)))
  wrow : ∀ d : Nat, d < 7 → w.ownsRow w0.heap.size 3 1 (c.wv (d : Int)) (q.wrote (d : Int)).length ((q.wrote (d : Int)).map (Value.int .i64))
  apart : ∀ i j k, i < 19 → j < 19 → i ≠ j → cpart R c i k → cpart R c j k → False
  news : ∀ i k, i < 19 → cpart R c i k → w0.heap.size ≤ k
  old : Below w0.heap.size w0 w
def cofs (R : Nat) (c : CLay) (J : Nat → Prop) (k : Nat) : Prop := ∃ i, i < 19 ∧ J i ∧ cpart R c i k
section
variable {w0 w w1 : World} {R : Nat} {S F : Value} {q q1 : Crs} {c c1 : CLay} {G J : Nat → Prop}
theorem CrsAt.lt (h : CrsAt w0 w R S F q c) : R < w.heap.size := (Array.getElem?_eq_some_iff.1 h.blk).1
theorem CrsAt.part_lt (h : CrsAt w0 w R S F q c) : ∀ i k, i < 19 → cpart R c i k → k < w.heap.size := by
  intro i k hi hk
  match i, hk with
  | 0, hk => rw [show k = R from hk]; exact h.lt
  | 1, hk => exact (h.done.lt k hk).2
  | 2, hk => rw [show k = c.B from hk]; exact h.beg.elim fun _ h => h.lt
  | 3, hk => rw [show k = c.D from hk]; exact h.rd.elim fun _ h => h.lt
  | 4, hk => rw [show k = c.W from hk]; exact h.wr.elim fun _ h => h.lt
  | d + 5, hk =>
    by_cases hd : d < 7
    · exact ((h.rrow d hd).lt k ((cpart_r R c hd k).1 hk)).2
    · obtain ⟨e, rfl⟩ : ∃ e, d = e + 7 := ⟨d - 7, by omega⟩
      exact ((h.wrow e (by omega)).lt k ((cpart_w R c e k).1 hk)).2
theorem CrsAt.keep (h : CrsAt w0 w R S F q c) {i : Nat} (hi : i < 19) (hj : ¬ J i) : ∀ k, cpart R c i k → ¬ cofs R c J k := fun k hk ⟨j, hj1, hj2, hj3⟩ => h.apart i j k hi hj1 (fun e => hj (e ▸ hj2)) hk hj3
theorem CrsAt.blkT (h : CrsAt w0 w R S F q c) (ht : Turns G w w1) (hF : ∀ k, cpart R c 0 k → ¬ G k) : w1.heap[R]? = some (.cells (crsCells S F c) 117 (0, 0)) := (ht.block R h.lt (hF R rfl)).trans h.blk
theorem CrsAt.doneT (h : CrsAt w0 w R S F q c) (ht : Turns G w w1) (hF : ∀ k, cpart R c 1 k → ¬ G k) : w1.ownsRow w0.heap.size 3 1 c.dv q.done.length (q.done.map (Value.int .i64)) := ht.own h.done fun k hk => hF k hk
theorem CrsAt.begT (h : CrsAt w0 w R S F q c) (ht : Turns G w w1) (hF : ∀ k, cpart R c 2 k → ¬ G k) : ∃ m, MapIs w1 c.B (begM q.began) m := h.beg.elim fun m h1 => ⟨m, h1.turn ht (hF _ rfl)⟩
theorem CrsAt.rdT (h : CrsAt w0 w R S F q c) (ht : Turns G w w1) (hF : ∀ k, cpart R c 3 k → ¬ G k) : ∃ m, MapIs w1 c.D c.hr m := h.rd.elim fun m h1 => ⟨m, h1.turn ht (hF _ rfl)⟩
theorem CrsAt.wrT (h : CrsAt w0 w R S F q c) (ht : Turns G w w1) (hF : ∀ k, cpart R c 4 k → ¬ G k) : ∃ m, MapIs w1 c.W c.hw m := h.wr.elim fun m h1 => ⟨m, h1.turn ht (hF _ rfl)⟩
theorem CrsAt.rrowT (h : CrsAt w0 w R S F q c) (ht : Turns G w w1) {d : Nat} (hd : d < 7) (hF : ∀ k, cpart R c (d + 5) k → ¬ G k) : w1.ownsRow w0.heap.size 47 3 (c.rv (d : Int)) (q.read (d : Int)).length (flat (q.read (d : Int))) := ht.own (h.rrow d hd) fun k hk => hF k ((cpart_r R c hd k).2 hk)
theorem CrsAt.wrowT (h : CrsAt w0 w R S F q c) (ht : Turns G w w1) {d : Nat} (hd : d < 7) (hF : ∀ k, cpart R c (d + 12) k → ¬ G k) : w1.ownsRow w0.heap.size 3 1 (c.wv (d : Int)) (q.wrote (d : Int)).length ((q.wrote (d : Int)).map (Value.int .i64)) := ht.own (h.wrow d hd) fun k hk => hF k ((cpart_w R c d k).2 hk)
/-- Some parts have turned, one of them lies otherwise. -/
theorem CrsAt.change (h : CrsAt w0 w R S F q c) (m : Nat) (ht : Turns (cofs R c J) w w1) (hsame : ∀ i, i < 19 → i ≠ m → ∀ k, cpart R c1 i k → cpart R c i k) (hm : ∀ k, cpart R c1 m k → cpart R c m k ∨ w.heap.size ≤ k)
    (blk : w1.heap[R]? = some (.cells (crsCells S F c1) 117 (0, 0))) (done : w1.ownsRow w0.heap.size 3 1 c1.dv q1.done.length (q1.done.map (Value.int .i64))) (beg : ∃ m, MapIs w1 c1.B (begM q1.began) m) (rd : ∃ m, MapIs w1 c1.D c1.hr m) (wr : ∃ m, MapIs w1 c1.W c1.hw m)
    (rrow : ∀ d : Nat, d < 7 → w1.ownsRow w0.heap.size 47 3 (c1.rv (d : Int)) (q1.read (d : Int)).length (flat (q1.read (d : Int)))) (wrow : ∀ d : Nat, d < 7 → w1.ownsRow w0.heap.size 3 1 (c1.wv (d : Int)) (q1.wrote (d : Int)).length ((q1.wrote (d : Int)).map (Value.int .i64))) : CrsAt w0 w1 R S F q1 c1 := by
  have hp : ∀ i k, i < 19 → cpart R c1 i k → cpart R c i k ∨ (i = m ∧ w.heap.size ≤ k) := fun i k hi hk => by
    by_cases e : i = m
    · subst e
      rcases hm k hk with h1 | h1
      · exact .inl h1
      · exact .inr ⟨rfl, h1⟩
    · exact .inl (hsame i hi e k hk)
  refine ⟨blk, done, beg, rd, wr, rrow, wrow, fun i j k hi hj hij h1 h2 => ?_, fun i k hi hk => ?_, h.old.trans (ht.below h.old.size fun k hk hf => ?_)⟩
  · rcases hp i k hi h1 with h3 | ⟨h3, h4⟩
    · rcases hp j k hj h2 with h5 | ⟨h5, h6⟩
      · exact h.apart i j k hi hj hij h3 h5
      · have := h.part_lt i k hi h3; omega
    · rcases hp j k hj h2 with h5 | ⟨h5, h6⟩
      · have := h.part_lt j k hj h5; omega
      · exact hij (h3.trans h5.symm)
  · rcases hp i k hi hk with h3 | ⟨_, h3⟩
    · exact h.news i k hi h3
    · exact Nat.le_trans h.old.size h3
  · obtain ⟨i, hi, _, hk2⟩ := hf
    have := h.news i k hi hk2
    omega
theorem CrsAt.below (h : CrsAt w0 w R S F q c) (hb : Below w.heap.size w w1) : CrsAt w0 w1 R S F q c :=
  have ht : Turns (cofs R c fun _ => False) w w1 := Turns.of_below hb
  h.change (c1 := c) 0 ht (fun _ _ _ _ hk => hk) (fun _ hk => .inl hk) (h.blkT ht (h.keep (by omega) (fun hf => hf))) (h.doneT ht (h.keep (by omega) (fun hf => hf))) (h.begT ht (h.keep (by omega) (fun hf => hf))) (h.rdT ht (h.keep (by omega) (fun hf => hf))) (h.wrT ht (h.keep (by omega) (fun hf => hf)))
    (fun d hd => h.rrowT ht hd (h.keep (by omega) (fun hf => hf))) fun d hd => h.wrowT ht hd (h.keep (by omega) (fun hf => hf))
theorem CrsAt.drew (h : CrsAt w0 w R S F q c) : CrsAt w0 w.drew R S F q c := h.below (Below.refl _ w).drew
theorem CrsAt.alloc (h : CrsAt w0 w R S F q c) (o : Obj) : CrsAt w0 (w.alloc o) R S F q c := h.below ((Below.refl _ w).alloc (Nat.le_refl _) o)
end
section
variable {w0 w w1 : World} {R : Nat} {S F : Value} {q : Crs} {c : CLay}
theorem CrsAt.cell (h : CrsAt w0 w R S F q c) (k : Nat) : w.cell? ⟨R, k, none⟩ = (crsCells S F c)[k]? := by rw [cell_of_row w R _ _ _ _ h.blk]
theorem CrsAt.c0 (h : CrsAt w0 w R S F q c) : w.cell? ⟨R, 0, none⟩ = some S := h.cell 0
theorem CrsAt.c1 (h : CrsAt w0 w R S F q c) : w.cell? ⟨R, 1, none⟩ = some F := h.cell 1
theorem CrsAt.c2 (h : CrsAt w0 w R S F q c) : w.cell? ⟨R, 2, none⟩ = some c.dv := h.cell 2
theorem CrsAt.c3 (h : CrsAt w0 w R S F q c) : w.cell? ⟨R, 3, none⟩ = some (.map (some c.B)) := h.cell 3
theorem CrsAt.c4 (h : CrsAt w0 w R S F q c) : w.cell? ⟨R, 4, none⟩ = some (.map (some c.D)) := h.cell 4
theorem CrsAt.c5 (h : CrsAt w0 w R S F q c) : w.cell? ⟨R, 5, none⟩ = some (.map (some c.W)) := h.cell 5
theorem CrsAt.thaw (h : CrsAt w0 w R S F q c) (k : Nat) : w.frozen? ⟨R, k, none⟩ = false := by simp [World.frozen?, h.blk]
/-- A deal has begun. -/
theorem CrsAt.setBeg {m : Nat} {b : Int → Option Nat} (h : CrsAt w0 w R S F q c) (hp : MapIs w1 c.B (begM b) m) (ht : Turns (fun k => k = c.B) w w1) : CrsAt w0 w1 R S F { q with began := b } c := by
  have ht2 : Turns (cofs R c fun j => j = 2) w w1 := ht.mono fun _ _ hk => ⟨2, by omega, rfl, hk⟩
  exact h.change (c1 := c) 2 ht2 (fun _ _ _ _ hk => hk) (fun _ hk => .inl hk) (h.blkT ht2 (h.keep (by omega) (by omega))) (h.doneT ht2 (h.keep (by omega) (by omega))) ⟨m, hp⟩ (h.rdT ht2 (h.keep (by omega) (by omega))) (h.wrT ht2 (h.keep (by omega) (by omega)))
    (fun d hd => h.rrowT ht2 hd (h.keep (by omega) (by omega))) fun d hd => h.wrowT ht2 hd (h.keep (by omega) (by omega))
/-- One more is done. -/
theorem CrsAt.pushDone {v : Value} {t : Int} (h : CrsAt w0 w R S F q c) (ht : Turns (fun k => c.dv.ownBlock = some k) w w1) (hv : w1.ownsRow w0.heap.size 3 1 v (q.done.length + 1) (q.done.map (Value.int .i64) ++ [.int .i64 t])) (hap : ∀ g, v.ownBlock = some g → c.dv.ownBlock = some g ∨ w.heap.size ≤ g) :
    w1.cell? ⟨R, 2, none⟩ = some c.dv ∧ w1.frozen? ⟨R, 2, none⟩ = false ∧ CrsAt w0 (w1.setCell ⟨R, 2, none⟩ v) R S F (doneQ q t) { c with dv := v } := by
  have hn : ¬ c.dv.ownBlock = some R := fun e => h.apart 0 1 R (by omega) (by omega) (by decide) rfl e
  have hb1 : w1.heap[R]? = some (.cells (crsCells S F c) 117 (0, 0)) := (ht.block R h.lt hn).trans h.blk
  have ht2 : Turns (cofs R c fun j => j = 0 ∨ j = 1) w (w1.setCell ⟨R, 2, none⟩ v) := (ht.mono fun k _ hk => ⟨1, by omega, .inr rfl, hk⟩).setCell (.inl ⟨0, by omega, .inl rfl, rfl⟩) v
  have hR : ¬ v.ownBlock = some R := fun e => by
    rcases hap R e with h1 | h1
    · exact hn h1
    · have := h.lt; omega
  have hset : Turns (fun k => k = R) w1 (w1.setCell ⟨R, 2, none⟩ v) := by
    refine Turns.setCell (Turns.refl _ w1) ?_ _
    exact .inl rfl
  refine ⟨by rw [cell_of_row w1 R _ _ _ _ hb1]; rfl, by simp [World.frozen?, hb1], h.change (c1 := { c with dv := v }) 1 ht2 (fun i hi hne k hk => ?_) (fun k hk => hap k hk) ?_ ?_ (h.begT ht2 (h.keep (by omega) (by omega))) (h.rdT ht2 (h.keep (by omega) (by omega))) (h.wrT ht2 (h.keep (by omega) (by omega)))
    (fun d hd => h.rrowT ht2 hd (h.keep (by omega) (by omega))) fun d hd => h.wrowT ht2 hd (h.keep (by omega) (by omega))⟩
  · match i, hne, hk with
    | 0, _, hk => exact hk
    | 1, hne, _ => exact absurd rfl hne
    | 2, _, hk => exact hk
    | 3, _, hk => exact hk
    | 4, _, hk => exact hk
    | d + 5, _, hk => exact hk
  · rw [block_set hb1]; rfl
  · show World.ownsRow _ _ _ _ v (q.done ++ [t]).length ((q.done ++ [t]).map _)
    rw [List.length_append, List.map_append]
    exact hset.own hv fun g hg e => hR (e ▸ hg)
theorem rv_same (c : CLay) (d : Int) (x : Option Value) : ({ c with hr := setF c.hr d x } : CLay).rv d = x.getD (.slice none 0 0) := by show (setF c.hr d x d).getD _ = _; rw [setF_same]
theorem rv_other (c : CLay) {d e : Int} (x : Option Value) (hne : e ≠ d) : ({ c with hr := setF c.hr d x } : CLay).rv e = c.rv e := by show (setF c.hr d x e).getD _ = _; rw [setF_other _ _ hne]; rfl
theorem wv_same (c : CLay) (d : Int) (x : Option Value) : ({ c with hw := setF c.hw d x } : CLay).wv d = x.getD (.slice none 0 0) := by show (setF c.hw d x d).getD _ = _; rw [setF_same]
theorem wv_other (c : CLay) {d e : Int} (x : Option Value) (hne : e ≠ d) : ({ c with hw := setF c.hw d x } : CLay).wv e = c.wv e := by show (setF c.hw d x e).getD _ = _; rw [setF_other _ _ hne]; rfl
/-- A deal read something more. w2: its row has turned; w1: the map has. -/
theorem CrsAt.pushRead {w2 : World} {m d : Nat} {v : Value} {x : Op3} (hd : d < 7) (hx : x.1 = (d : Int)) (h : CrsAt w0 w R S F q c) (ht0 : Turns (fun k => (c.rv (d : Int)).ownBlock = some k) w w2) (hp : MapIs w1 c.D (setF c.hr (d : Int) (some v)) m) (ht : Turns (fun k => k = c.D) w2 w1)
    (hv : w2.ownsRow w0.heap.size 47 3 v ((q.read (d : Int)).length + 1) (flat (q.read (d : Int)) ++ flat [x])) (hap : ∀ k, v.ownBlock = some k → (c.rv (d : Int)).ownBlock = some k ∨ w.heap.size ≤ k) : CrsAt w0 w1 R S F (readQ q x) { c with hr := setF c.hr (d : Int) (some v) } := by
  have ht2 : Turns (cofs R c fun j => j = 3 ∨ j = d + 5) w w1 := (ht0.mono fun k _ hk => ⟨d + 5, by omega, .inr rfl, (cpart_r R c hd k).2 hk⟩).trans ht fun k _ hk => ⟨3, by omega, .inl rfl, hk⟩
  have hB : ∀ k, v.ownBlock = some k → k ≠ c.D := fun k hk e => by
    rcases hap k hk with h1 | h1
    · exact h.apart (d + 5) 3 k (by omega) (by omega) (by omega) ((cpart_r R c hd k).2 h1) e
    · have := h.rd.elim fun _ h => h.lt
      omega
  refine h.change (c1 := { c with hr := setF c.hr (d : Int) (some v) }) (d + 5) ht2 (fun i hi hne k hk => ?_) (fun k hk => ?_) (h.blkT ht2 (h.keep (by omega) (by omega))) (h.doneT ht2 (h.keep (by omega) (by omega))) (h.begT ht2 (h.keep (by omega) (by omega))) ⟨m, hp⟩ (h.wrT ht2 (h.keep (by omega) (by omega)))
    (fun e he => ?_) fun d hd => h.wrowT ht2 hd (h.keep (by omega) (by omega))
  · match i, hne, hk with
    | 0, _, hk => exact hk
    | 1, _, hk => exact hk
    | 2, _, hk => exact hk
    | 3, _, hk => exact hk
    | 4, _, hk => exact hk
    | e + 5, hne, hk =>
      by_cases he : e < 7
      · have hk' := (cpart_r R _ he k).1 hk
        rw [rv_other c _ (by omega)] at hk'
        exact (cpart_r R c he k).2 hk'
      · obtain ⟨g, rfl⟩ : ∃ g, e = g + 7 := ⟨e - 7, by omega⟩
        have hk' := (cpart_w R _ g k).1 hk; exact (cpart_w R c g k).2 hk'
  · have hk' := (cpart_r R _ hd k).1 hk
    rw [rv_same] at hk'
    rcases hap k hk' with h1 | h1
    · exact .inl ((cpart_r R c hd k).2 h1)
    · exact .inr h1
  · show World.ownsRow w1 _ _ 3 _ (setF q.read x.1 (q.read x.1 ++ [x]) (e : Int)).length (flat (setF q.read x.1 (q.read x.1 ++ [x]) (e : Int)))
    rw [hx]
    by_cases e1 : e = d
    · subst e1
      rw [rv_same, setF_same, List.length_append, flat_append]
      exact ht.own hv fun k hk e2 => hB k hk e2
    · rw [rv_other c _ (by omega), setF_other _ _ (by omega)]
      exact h.rrowT ht2 he (h.keep (by omega) (by omega))
/-- A deal wrote something more. -/
theorem CrsAt.pushWrote {w2 : World} {m d : Nat} {v : Value} {x : Int} (hd : d < 7) (h : CrsAt w0 w R S F q c) (ht0 : Turns (fun k => (c.wv (d : Int)).ownBlock = some k) w w2) (hp : MapIs w1 c.W (setF c.hw (d : Int) (some v)) m) (ht : Turns (fun k => k = c.W) w2 w1)
    (hv : w2.ownsRow w0.heap.size 3 1 v ((q.wrote (d : Int)).length + 1) ((q.wrote (d : Int)).map (Value.int .i64) ++ [.int .i64 x])) (hap : ∀ k, v.ownBlock = some k → (c.wv (d : Int)).ownBlock = some k ∨ w.heap.size ≤ k) : CrsAt w0 w1 R S F (writeQ q (d : Int) x) { c with hw := setF c.hw (d : Int) (some v) } := by
  have ht2 : Turns (cofs R c fun j => j = 4 ∨ j = d + 12) w w1 := (ht0.mono fun k _ hk => ⟨d + 12, by omega, .inr rfl, (cpart_w R c d k).2 hk⟩).trans ht fun k _ hk => ⟨4, by omega, .inl rfl, hk⟩
  have hB : ∀ k, v.ownBlock = some k → k ≠ c.W := fun k hk e => by
    rcases hap k hk with h1 | h1
    · exact h.apart (d + 12) 4 k (by omega) (by omega) (by omega) ((cpart_w R c d k).2 h1) e
    · have := h.wr.elim fun _ h => h.lt
      omega
  refine h.change (c1 := { c with hw := setF c.hw (d : Int) (some v) }) (d + 12) ht2 (fun i hi hne k hk => ?_) (fun k hk => ?_) (h.blkT ht2 (h.keep (by omega) (by omega))) (h.doneT ht2 (h.keep (by omega) (by omega))) (h.begT ht2 (h.keep (by omega) (by omega))) (h.rdT ht2 (h.keep (by omega) (by omega))) ⟨m, hp⟩
    (fun d hd => h.rrowT ht2 hd (h.keep (by omega) (by omega))) fun e he => ?_
  · match i, hne, hk with
    | 0, _, hk => exact hk
    | 1, _, hk => exact hk
    | 2, _, hk => exact hk
    | 3, _, hk => exact hk
    | 4, _, hk => exact hk
    | e + 5, hne, hk =>
      by_cases he : e < 7
      · have hk' := (cpart_r R _ he k).1 hk; exact (cpart_r R c he k).2 hk'
      · obtain ⟨g, rfl⟩ : ∃ g, e = g + 7 := ⟨e - 7, by omega⟩
        have hk' := (cpart_w R _ g k).1 hk
        rw [wv_other c _ (by omega)] at hk'
        exact (cpart_w R c g k).2 hk'
  · have hk' := (cpart_w R _ d k).1 hk
    rw [wv_same] at hk'
    rcases hap k hk' with h1 | h1
    · exact .inl ((cpart_w R c d k).2 h1)
    · exact .inr h1
  · show World.ownsRow w1 _ _ 1 _ (setF q.wrote (d : Int) (q.wrote (d : Int) ++ [x]) (e : Int)).length ((setF q.wrote (d : Int) (q.wrote (d : Int) ++ [x]) (e : Int)).map _)
    by_cases e1 : e = d
    · subst e1
      rw [wv_same, setF_same, List.length_append, List.map_append]
      exact ht.own hv fun k hk e2 => hB k hk e2
    · rw [wv_other c _ (by omega), setF_other _ _ (by omega)]
      exact h.wrowT ht2 he (h.keep (by omega) (by omega))
end
/-- As it is made. -/
theorem crs_made (w0 w : World) (hb : Below w0.heap.size w0 w) (S F : Value) : CrsAt w0 ((((w.alloc (.map #[] 0)).alloc (.map #[] 0)).alloc (.map #[] 0)).alloc (.cells #[S, F, .slice none 0 0, .map (some w.heap.size), .map (some (w.heap.size + 1)), .map (some (w.heap.size + 2))] 117)) (w.heap.size + 3) S F crs0 ⟨.slice none 0 0, w.heap.size, w.heap.size + 1, w.heap.size + 2, fun _ => none, fun _ => none⟩ := by
  obtain ⟨W1, hW1⟩ : ∃ W, W = w.alloc (.map #[] 0) := ⟨_, rfl⟩
  obtain ⟨W2, hW2⟩ : ∃ W, W = W1.alloc (.map #[] 0) := ⟨_, rfl⟩
  obtain ⟨W3, hW3⟩ : ∃ W, W = W2.alloc (.map #[] 0) := ⟨_, rfl⟩
  obtain ⟨W4, hW4⟩ : ∃ W, W = W3.alloc (.cells #[S, F, .slice none 0 0, .map (some w.heap.size), .map (some (w.heap.size + 1)), .map (some (w.heap.size + 2))] 117) := ⟨_, rfl⟩
  have s1 : W1.heap.size = w.heap.size + 1 := by rw [hW1]; simp
  have s2 : W2.heap.size = w.heap.size + 2 := by rw [hW2]; simp [s1]
  have s3 : W3.heap.size = w.heap.size + 3 := by rw [hW3]; simp [s2]
  have t1 : Turns (fun _ => False) w W1 := by rw [hW1]; exact (Turns.refl _ w).alloc _
  have t2 : Turns (fun _ => False) W1 W2 := by rw [hW2]; exact (Turns.refl _ W1).alloc _
  have t3 : Turns (fun _ => False) W2 W3 := by rw [hW3]; exact (Turns.refl _ W2).alloc _
  have t4 : Turns (fun _ => False) W3 W4 := by rw [hW4]; exact (Turns.refl _ W3).alloc _
  have m1 : MapIs W1 w.heap.size (fun _ => none) 0 := by rw [hW1]; exact mapIs_made w
  have m2 : MapIs W2 (w.heap.size + 1) (fun _ => none) 0 := by rw [hW2, ← s1]; exact mapIs_made W1
  have m3 : MapIs W3 (w.heap.size + 2) (fun _ => none) 0 := by rw [hW3, ← s2]; exact mapIs_made W2
  have hs := hb.size
  rw [← hW1, ← hW2, ← hW3, ← hW4]
  have t14 : Turns (fun _ => False) w W4 := ((t1.trans t2 fun _ _ hf => hf).trans t3 fun _ _ hf => hf).trans t4 fun _ _ hf => hf
  refine ⟨?_, World.ownsRow_nil _ _ _ _, ⟨0, ((m1.turn t2 (fun hf => hf)).turn t3 (fun hf => hf)).turn t4 (fun hf => hf)⟩, ⟨0, (m2.turn t3 (fun hf => hf)).turn t4 (fun hf => hf)⟩, ⟨0, m3.turn t4 (fun hf => hf)⟩, fun d _ => World.ownsRow_nil _ _ _ _, fun d _ => World.ownsRow_nil _ _ _ _, fun i j k hi hj hij h1 h2 => ?_, fun i k hi hk => ?_, hb.trans (t14.below hs fun _ _ hf => hf)⟩
  · rw [hW4, ← s3]
    exact heap_alloc_new W3 _
  · have key : ∀ i k, i < 19 → cpart (w.heap.size + 3) ⟨.slice none 0 0, w.heap.size, w.heap.size + 1, w.heap.size + 2, fun _ => none, fun _ => none⟩ i k → (i = 0 ∧ k = w.heap.size + 3) ∨ (i = 2 ∧ k = w.heap.size) ∨ (i = 3 ∧ k = w.heap.size + 1) ∨ (i = 4 ∧ k = w.heap.size + 2) := fun i k hi hk => by
      match i, hk with
      | 0, hk => exact .inl ⟨rfl, hk⟩
      | 1, hk => exact absurd hk (by simp [cpart, Value.ownBlock])
      | 2, hk => exact .inr (.inl ⟨rfl, hk⟩)
      | 3, hk => exact .inr (.inr (.inl ⟨rfl, hk⟩))
      | 4, hk => exact .inr (.inr (.inr ⟨rfl, hk⟩))
      | d + 5, hk => exact absurd hk (by simp [cpart, CLay.rv, CLay.wv, Value.ownBlock])
    have a := key i k hi h1
    have b := key j k hj h2
    omega
  · match i, hk with
    | 0, hk => rw [show k = _ from hk]; omega
    | 1, hk => exact absurd hk (by simp [cpart, Value.ownBlock])
    | 2, hk => rw [show k = _ from hk]; exact hs
    | 3, hk => rw [show k = _ from hk]; show w0.heap.size ≤ w.heap.size + 1; omega
    | 4, hk => rw [show k = _ from hk]; show w0.heap.size ≤ w.heap.size + 2; omega
    | d + 5, hk => exact absurd hk (by simp [cpart, CLay.rv, CLay.wv, Value.ownBlock])
end Go.Proofs.YtccjognnehoodahGreat

namespace Go.Proofs.YtccjognnehoodahGreat
open Go.RowKit

theorem hid_q {p : Prop} (h : p) : Hid p := h
theorem noneI_snocC {q : Int → Bool} {l : List Int} {k : Nat} {e : Int} (h : l.take (k + 1) = l.take k ++ [e]) (h1 : (l.take k).any q = false) (h2 : q e = false) : (l.take (k + 1)).any q = false := by
  rw [h, List.any_append, h1]; simp [h2]
/-- What IndexFunc answers. -/
def FirstIC (l : List Int) (q : Int → Bool) (n : Int) : Prop := (n = -1 ∧ l.any q = false) ∨ ∃ k : Nat, n = k ∧ k < l.length ∧ q (l.getD k 0) = true ∧ (l.take k).any q = false
theorem getD_memC {l : List Int} {k : Nat} (h : k < l.length) : l.getD k 0 ∈ l := by simp [List.getD, h]
theorem FirstIC.sign {l : List Int} {q : Int → Bool} {n : Int} (h : FirstIC l q n) : decide (0 ≤ n) = l.any q := by
  rcases h with ⟨rfl, h⟩ | ⟨k, rfl, hk, hq, _⟩
  · rw [h]; rfl
  · have : l.any q = true := List.any_eq_true.2 ⟨_, getD_memC hk, hq⟩
    rw [this]; simp
theorem FirstIC.none {l : List Int} {q : Int → Bool} (h : l.any q = false) : FirstIC l q (-1) := .inl ⟨rfl, h⟩
theorem FirstIC.some {l : List Int} {q : Int → Bool} {k : Nat} {e : Int} (hk : k < l.length) (he : l.getD k 0 = e) (hq : q e = true) (h : (l.take k).any q = false) : FirstIC l q (k : Int) := .inr ⟨k, rfl, hk, by rw [he]; exact hq, h⟩
set_option maxHeartbeats 4000000 in
theorem index_intC (l : List Int) (v : Value) (q : Int → Bool) (N : Nat) (C : Array Value) (w : World) (hcall : ∀ (args : Array Value) (W : World), (callFunc N args).run Tryz.prog W = .ok (.enter N args) W) (hI : IsInts w v l) (hlen : l.length ≤ 140737488351)
    (hp : ∀ W : World, Below w.heap.size w W → ∀ e ∈ l, Calls Tryz.prog N (#[.int .i64 e] ++ C) W fun r w' => r = .returned (.bool (q e)) ∧ Below W.heap.size W w') :
    Calls Tryz.prog 94 #[v, .func (.func N) #[] C] w fun r w' => ∃ n : Int, r = .returned (.int .i64 n) ∧ FirstIC l q n ∧ Below w.heap.size w w' := by
  have HI2 : Hid (IsInts w v l) := hI
  obtain ⟨ad, b, off, cap, rfl, ha, _, hbB, hops⟩ := hI
  have HO : Hid (∀ W, Below w.heap.size w W → ∀ k, k < l.length → ad = some ⟨b, off, none⟩ ∧ W.cell? ⟨b, off + k, none⟩ = some (.int .i64 (l.getD k 0))) := fun W hW k hk => ⟨ha (by omega), by
    have hb : b < w.heap.size := by
      rcases hbB with h | h
      · exact h
      · subst h; simp at hk
    exact (hW.cell (p := ⟨b, off + k, none⟩) hb).trans (hops k hk)⟩
  have HP : Hid (∀ W : World, Below w.heap.size w W → ∀ e ∈ l, Calls Tryz.prog N (#[.int .i64 e] ++ C) W fun r w' => r = .returned (.bool (q e)) ∧ Below W.heap.size W w') := hp
  clear ha hbB hops hp HI2
  go_enter Tryz.func94, Tryz.ntmps94
  go_wp2
  go_loopw [8] (fun v8 wr => ∃ k : Nat, k ≤ l.length ∧ v8 = .int .i64 k ∧ (l.take k).any q = false ∧ Below w.heap.size w wr) (fun v8 _ => l.length - (intOf v8).toNat)
  case atStart => exact ⟨0, Nat.zero_le _, rfl, by simp, Below.refl _ _⟩
  case round =>
    obtain ⟨k, hk, rfl, hno, hbel⟩ := hrel
    have HNO : Hid ((l.take k).any q = false) := hno
    clear hno
    have hsz := hbel.size
    by_cases hlt : k < l.length
    · have hlt' : (k : Int) < (l.length : Int) := by omega
      obtain ⟨rfl, c0⟩ := HO.out wr hbel k hlt
      obtain ⟨t, ho⟩ : ∃ o : Int, l.getD k 0 = o := ⟨_, rfl⟩
      rw [ho] at c0
      have hmem : t ∈ l := by rw [← ho]; exact getD_memC hlt
      have HT : Hid (l.take (k + 1) = l.take k ++ [t]) := by
        show l.take (k + 1) = l.take k ++ [t]
        rw [List.take_succ_eq_append_getElem hlt, ← ho]; simp [List.getD, List.getElem?_eq_getElem hlt]
      have HM : Hid (t ∈ l) := hmem
      have HG : Hid (l.getD k 0 = t) := ho
      clear ho HO hmem
      cases hq : q t with
      | false =>
        have HQ : Hid (q t = false) := hq
        have HC : Hid (Calls Tryz.prog N (#[.int .i64 t] ++ C) wr fun r w' => r = .returned (.bool false) ∧ Below wr.heap.size wr w') := hq ▸ HP.out wr hbel _ HM.out
        clear hq
        go_wp2_with fail
        refine HC.out.mono ?_
        rintro e w1 ⟨rfl, hb1⟩
        go_wp2_with fail
        go_roundw
        case rel => exact ⟨k + 1, by omega, by go_num, noneI_snocC HT.out HNO.out HQ.out, hbel.trans (hb1.mono hsz)⟩
        case measure => simp [intOf]; omega
      | true =>
        have HQ : Hid (q t = true) := hq
        have HC : Hid (Calls Tryz.prog N (#[.int .i64 t] ++ C) wr fun r w' => r = .returned (.bool true) ∧ Below wr.heap.size wr w') := hq ▸ HP.out wr hbel _ HM.out
        clear hq
        go_wp2_with fail
        refine HC.out.mono ?_
        rintro e w1 ⟨rfl, hb1⟩
        go_wp2_with fail
        go_ret
        exact ⟨_, rfl, FirstIC.some hlt HG.out HQ.out HNO.out, hbel.trans (hb1.mono hsz)⟩
    · have hlt' : ¬ (k : Int) < (l.length : Int) := by omega
      go_wp2_with fail
      go_ret
      refine ⟨_, rfl, FirstIC.none ?_, hbel⟩
      have h0 := HNO.out
      rw [List.take_of_length_le (by omega)] at h0
      exact h0
theorem contains_intC (l : List Int) (v : Value) (q : Int → Bool) (N : Nat) (C : Array Value) (w : World) (hcall : ∀ (args : Array Value) (W : World), (callFunc N args).run Tryz.prog W = .ok (.enter N args) W) (hI : IsInts w v l) (hlen : l.length ≤ 140737488351)
    (hp : ∀ W : World, Below w.heap.size w W → ∀ e ∈ l, Calls Tryz.prog N (#[.int .i64 e] ++ C) W fun r w' => r = .returned (.bool (q e)) ∧ Below W.heap.size W w') :
    Calls Tryz.prog 58 #[v, .func (.func N) #[] C] w fun r w' => r = .returned (.bool (l.any q)) ∧ Below w.heap.size w w' := by
  have HC : Hid (Calls Tryz.prog 94 #[v, .func (.func N) #[] C] w fun r w' => ∃ n : Int, r = .returned (.int .i64 n) ∧ FirstIC l q n ∧ Below w.heap.size w w') := index_intC l v q N C w hcall hI hlen hp
  clear hp hI hcall
  go_enter Tryz.func58, Tryz.ntmps58
  go_wp2_with (go_at_call 94; refine HC.out.mono ?_; rintro e w1 ⟨n, rfl, hn, hb1⟩; have hn1 := hn.sign; clear hn)
  all_goals go_ret
  all_goals exact ⟨ret_bool (by simp_all), hb1⟩
/-- What was seen, as a value. -/
def seV (x : Op3) : Value := .agg #[.int .i64 x.1, .int .i64 x.2.1, .int .i64 x.2.2]
theorem noneL_snocC {q : Op3 → Bool} {l : List Op3} {k : Nat} {e : Op3} (h : l.take (k + 1) = l.take k ++ [e]) (h1 : (l.take k).any q = false) (h2 : q e = false) : (l.take (k + 1)).any q = false := by
  rw [h, List.any_append, h1]; simp [h2]
/-- What IndexFunc answers. -/
def FirstLC (l : List Op3) (q : Op3 → Bool) (n : Int) : Prop := (n = -1 ∧ l.any q = false) ∨ ∃ k : Nat, n = k ∧ k < l.length ∧ q (opAt l k) = true ∧ (l.take k).any q = false
theorem FirstLC.sign {l : List Op3} {q : Op3 → Bool} {n : Int} (h : FirstLC l q n) : decide (0 ≤ n) = l.any q := by
  rcases h with ⟨rfl, h⟩ | ⟨k, rfl, hk, hq, _⟩
  · rw [h]; rfl
  · have : l.any q = true := List.any_eq_true.2 ⟨_, opAt_mem hk, hq⟩
    rw [this]; simp
theorem FirstLC.none {l : List Op3} {q : Op3 → Bool} (h : l.any q = false) : FirstLC l q (-1) := .inl ⟨rfl, h⟩
theorem FirstLC.some {l : List Op3} {q : Op3 → Bool} {k : Nat} {e : Op3} (hk : k < l.length) (he : opAt l k = e) (hq : q e = true) (h : (l.take k).any q = false) : FirstLC l q (k : Int) := .inr ⟨k, rfl, hk, by rw [he]; exact hq, h⟩
theorem any_take_notC {l : List Op3} {q : Op3 → Bool} {k j : Nat} (h : (l.take k).any q = false) (hj : j < k) (hk : k ≤ l.length) : q (opAt l j) = false := by
  have hm : opAt l j ∈ l.take k := by
    rw [List.mem_iff_getElem]
    exact ⟨j, by simp; omega, by simp [opAt, List.getD, List.getElem?_eq_getElem (show j < l.length by omega)]⟩
  simpa using List.any_eq_false.1 h _ hm
set_option maxHeartbeats 4000000 in
theorem index_seen (l : List Op3) (v : Value) (q : Op3 → Bool) (N : Nat) (C : Array Value) (w : World) (hcall : ∀ (args : Array Value) (W : World), (callFunc N args).run Tryz.prog W = .ok (.enter N args) W) (hI : IsOps w v l) (hlen : l.length ≤ 140737488351)
    (hp : ∀ W : World, Below w.heap.size w W → ∀ e ∈ l, Calls Tryz.prog N (#[seV e] ++ C) W fun r w' => r = .returned (.bool (q e)) ∧ Below W.heap.size W w') :
    Calls Tryz.prog 98 #[v, .func (.func N) #[] C] w fun r w' => ∃ n : Int, r = .returned (.int .i64 n) ∧ FirstLC l q n ∧ Below w.heap.size w w' := by
  obtain ⟨ad, b, off, cap, rfl, ha, _, hbB, hops⟩ := hI
  have HO : Hid (∀ W, Below w.heap.size w W → ∀ k, k < l.length → ad = some ⟨b, off, none⟩ ∧ W.cell? ⟨b, off + k * 3, none⟩ = some (.int .i64 (opAt l k).1) ∧ W.cell? ⟨b, off + k * 3 + 1, none⟩ = some (.int .i64 (opAt l k).2.1) ∧ W.cell? ⟨b, off + k * 3 + 2, none⟩ = some (.int .i64 (opAt l k).2.2)) := fun W hW k hk => ⟨ha (by omega), (hops.below hW hbB) k hk⟩
  have HP : Hid (∀ W : World, Below w.heap.size w W → ∀ e ∈ l, Calls Tryz.prog N (#[seV e] ++ C) W fun r w' => r = .returned (.bool (q e)) ∧ Below W.heap.size W w') := hp
  clear ha hbB hops hp
  go_enter Tryz.func98, Tryz.ntmps98
  go_wp2
  go_loopw [8] (fun v8 wr => ∃ k : Nat, k ≤ l.length ∧ v8 = .int .i64 k ∧ (l.take k).any q = false ∧ Below w.heap.size w wr) (fun v8 _ => l.length - (intOf v8).toNat)
  case atStart => exact ⟨0, Nat.zero_le _, rfl, by simp, Below.refl _ _⟩
  case round =>
    obtain ⟨k, hk, rfl, hno, hbel⟩ := hrel
    have HNO : Hid ((l.take k).any q = false) := hno
    clear hno
    have hsz := hbel.size
    by_cases hlt : k < l.length
    · have hlt' : (k : Int) < (l.length : Int) := by omega
      obtain ⟨rfl, c0, c1, c2⟩ := HO.out wr hbel k hlt
      obtain ⟨⟨t, a, i⟩, ho⟩ : ∃ o : Op3, opAt l k = o := ⟨_, rfl⟩
      rw [ho] at c0 c1 c2
      have hmem : (t, a, i) ∈ l := by rw [← ho]; exact opAt_mem hlt
      have HT : Hid (l.take (k + 1) = l.take k ++ [(t, a, i)]) := by
        show l.take (k + 1) = l.take k ++ [(t, a, i)]
        rw [List.take_succ_eq_append_getElem hlt, ← ho]; simp [opAt, List.getD, List.getElem?_eq_getElem hlt]
      have HM : Hid ((t, a, i) ∈ l) := hmem
      have HG : Hid (opAt l k = (t, a, i)) := ho
      clear ho HO hmem
      simp only at c0 c1 c2
      cases hq : q (t, a, i) with
      | false =>
        have HQ : Hid (q (t, a, i) = false) := hq
        have HC : Hid (Calls Tryz.prog N (#[.agg #[.int .i64 t, .int .i64 a, .int .i64 i]] ++ C) wr fun r w' => r = .returned (.bool false) ∧ Below wr.heap.size wr w') := hq ▸ HP.out wr hbel _ HM.out
        clear hq
        go_wp2_with fail
        refine HC.out.mono ?_
        rintro e w1 ⟨rfl, hb1⟩
        go_wp2_with fail
        go_roundw
        case rel => exact ⟨k + 1, by omega, by go_num, noneL_snocC HT.out HNO.out HQ.out, hbel.trans (hb1.mono hsz)⟩
        case measure => simp [intOf]; omega
      | true =>
        have HQ : Hid (q (t, a, i) = true) := hq
        have HC : Hid (Calls Tryz.prog N (#[.agg #[.int .i64 t, .int .i64 a, .int .i64 i]] ++ C) wr fun r w' => r = .returned (.bool true) ∧ Below wr.heap.size wr w') := hq ▸ HP.out wr hbel _ HM.out
        clear hq
        go_wp2_with fail
        refine HC.out.mono ?_
        rintro e w1 ⟨rfl, hb1⟩
        go_wp2_with fail
        go_ret
        exact ⟨_, rfl, FirstLC.some hlt HG.out HQ.out HNO.out, hbel.trans (hb1.mono hsz)⟩
    · have hlt' : ¬ (k : Int) < (l.length : Int) := by omega
      go_wp2_with fail
      go_ret
      refine ⟨_, rfl, FirstLC.none ?_, hbel⟩
      have h0 := HNO.out
      rw [List.take_of_length_le (by omega)] at h0
      exact h0
theorem contains_seen (l : List Op3) (v : Value) (q : Op3 → Bool) (N : Nat) (C : Array Value) (w : World) (hcall : ∀ (args : Array Value) (W : World), (callFunc N args).run Tryz.prog W = .ok (.enter N args) W) (hI : IsOps w v l) (hlen : l.length ≤ 140737488351)
    (hp : ∀ W : World, Below w.heap.size w W → ∀ e ∈ l, Calls Tryz.prog N (#[seV e] ++ C) W fun r w' => r = .returned (.bool (q e)) ∧ Below W.heap.size W w') :
    Calls Tryz.prog 61 #[v, .func (.func N) #[] C] w fun r w' => r = .returned (.bool (l.any q)) ∧ Below w.heap.size w w' := by
  have HC : Hid (Calls Tryz.prog 98 #[v, .func (.func N) #[] C] w fun r w' => ∃ n : Int, r = .returned (.int .i64 n) ∧ FirstLC l q n ∧ Below w.heap.size w w') := index_seen l v q N C w hcall hI hlen hp
  clear hp hI hcall
  go_enter Tryz.func61, Tryz.ntmps61
  go_wp2_with (go_at_call 98; refine HC.out.mono ?_; rintro e w1 ⟨n, rfl, hn, hb1⟩; have hn1 := hn.sign; clear hn)
  all_goals go_ret
  all_goals exact ⟨ret_bool (by simp_all), hb1⟩
set_option maxHeartbeats 4000000 in
theorem index_nums (l : List Int) (v : Value) (n : Int) (w : World) (hI : IsInts w v l) (hl : l.length ≤ 1000) :
    Calls Tryz.prog 93 #[v, .int .i64 n] w fun e w' => ∃ m : Int, e = .returned (.int .i64 m) ∧ decide (0 ≤ m) = inB l n ∧ w' = w := by
  obtain ⟨ad, b, off, cap, rfl, ha, -, -, hc⟩ := hI
  have HE : Hid (∀ k, k < l.length → ad = some ⟨b, off, none⟩ ∧ w.cell? ⟨b, off + k, none⟩ = some (.int .i64 (l.getD k 0))) := fun k hk => ⟨ha (by omega), hc k hk⟩
  clear ha hc
  go_enter Tryz.func93, Tryz.ntmps93
  go_wp2_with fail
  go_loopw [8] (fun v8 wr => ∃ k : Nat, k ≤ l.length ∧ v8 = .int .i64 k ∧ inB (l.take k) n = false ∧ wr = w) (fun v8 _ => l.length - (intOf v8).toNat)
  case atStart => exact ⟨0, Nat.zero_le _, rfl, rfl, rfl⟩
  case round =>
    obtain ⟨k, hk, rfl, hno, hwr⟩ := hrel
    rw [hwr]
    clear hwr
    have HNO : Hid (inB (l.take k) n = false) := hno
    clear hno
    by_cases hlt : k < l.length
    · have hlt' : (k : Int) < (l.length : Int) := by omega
      obtain ⟨rfl, c0⟩ := HE.out k hlt
      obtain ⟨t, ho⟩ : ∃ t, l.getD k 0 = t := ⟨_, rfl⟩
      rw [ho] at c0
      have HM : Hid (t ∈ l) := by show t ∈ l; rw [← ho]; simp [List.getD, List.getElem?_eq_getElem hlt]
      have HT : Hid (l.take (k + 1) = l.take k ++ [t]) := by
        show l.take (k + 1) = l.take k ++ [t]
        rw [List.take_succ_eq_append_getElem hlt, ← ho]; simp [List.getD, List.getElem?_eq_getElem hlt]
      clear ho
      cases hq : (n == t) with
      | false =>
        have HN : Hid (inB (l.take (k + 1)) n = false) := by
          show inB (l.take (k + 1)) n = false
          have h1 := inB_not.1 HNO.out
          refine inB_not.2 fun h => ?_
          rw [HT.out, List.mem_append, List.mem_singleton] at h
          rcases h with h | h
          · exact h1 h
          · rw [h] at hq; simp at hq
        go_wp2_with fail
        go_roundw
        case rel => exact ⟨k + 1, by omega, by go_num, HN.out, trivial⟩
        case measure => simp [intOf]; omega
      | true =>
        have HR : Hid (inB l n = true) := by
          show inB l n = true
          have : n = t := by simpa using hq
          rw [this]; exact inB_iff.2 HM.out
        go_wp2_with fail
        go_ret
        exact ⟨_, rfl, by rw [HR.out]; simp, rfl⟩
    · have hlt' : ¬ (k : Int) < (l.length : Int) := by omega
      have HR : Hid (inB l n = false) := by
        show inB l n = false
        have h0 := HNO.out
        rw [List.take_of_length_le (by omega)] at h0
        exact h0
      go_wp2_with fail
      go_ret
      exact ⟨_, rfl, by rw [HR.out]; rfl, rfl⟩
theorem contains_nums (l : List Int) (v : Value) (n : Int) (w : World) (hI : IsInts w v l) (hl : l.length ≤ 1000) :
    Calls Tryz.prog 46 #[v, .int .i64 n] w fun e w' => e = .returned (.bool (inB l n)) ∧ w' = w := by
  have HC := hid_q (index_nums l v n w hI hl)
  clear hI
  go_enter Tryz.func46, Tryz.ntmps46
  go_wp2_with (go_at_call 93; refine HC.out.mono ?_; rintro e w1 ⟨m, rfl, hn1, hw1⟩; rw [hw1]; clear hw1)
  all_goals go_ret
  all_goals exact ⟨ret_bool (by simp_all), rfl⟩
theorem infoSeenQ : (Tryz.prog.info? 47).map (fun i => (i.zero, i.size, i.bytes)) = some (some (.agg #[.int .i64 0, .int .i64 0, .int .i64 0]), 3, 24) := by kernel_rfl
set_option maxHeartbeats 2000000 in
set_option maxRecDepth 100000 in
theorem clone_seen (l : List Op3) (v : Value) (w : World) (hI : IsOps w v l) (hl : l.length ≤ 1000) :
    Calls Tryz.prog 97 #[v] w fun e w' => ∃ v', e = .returned v' ∧ w'.ownsRow w.heap.size 47 3 v' l.length (flat l) ∧ Below w.heap.size w w' := by
  obtain ⟨ad, b, off, cap, rfl, ha, hn, -, hc⟩ := hI
  obtain ⟨i0, hi, hz0, hs0, hy0⟩ := info_parts infoSeenQ
  have HI : Hid (Tryz.prog.info? 47 = some i0 ∧ i0.zero = some (.agg #[.int .i64 0, .int .i64 0, .int .i64 0]) ∧ i0.size = 3 ∧ i0.bytes = 24) := ⟨hi, hz0, hs0, hy0⟩
  clear hi hz0 hs0 hy0
  cases ad with
  | none =>
    obtain ⟨h0, rfl⟩ := hn rfl
    have e0 : l = [] := List.length_eq_zero_iff.1 h0
    subst e0
    clear ha hn hc
    have hq : ∀ w, (binOp .eql 32 (.slice none 0 0) (.slice none 0 0)).run Tryz.prog w = .ok (.bool true) w := fun w => Lib.run_eql_slice_nil w _ _ _ _ _ _ _ Tryz.underlying32
    go_enter Tryz.func97, Tryz.ntmps97
    go_wp2
    go_ret
    exact ⟨_, rfl, World.ownsRow_nil _ _ _ _, Below.refl _ _⟩
  | some a =>
    by_cases h0 : l = []
    · subst h0
      clear ha hn hc
      have hq : ∀ w, (binOp .eql 32 (.slice (some a) 0 cap) (.slice none 0 0)).run Tryz.prog w = .ok (.bool false) w := fun w => Lib.run_eql_slice_nil w _ _ _ _ _ _ _ Tryz.underlying32
      go_enter Tryz.func97, Tryz.ntmps97
      go_wp2_with (at_builtin; refine wpList_append_own_none rfl (.tmp 5) (.tmp 6) 32 rfl w.heap.size 47 i0 3 Tryz.underlying32 HI.out.1 (.slice (some ⟨w.heap.size, 0, none⟩) 0 0) 0 [] rfl (World.ownsRow_made w #[] 0 (Nat.le_refl _) (Nat.zero_le _) rfl) rfl ?_)
      go_ret
      exact ⟨_, rfl, World.ownsRow_made w #[] 0 (Nat.le_refl _) (Nat.zero_le _) rfl, (Below.refl _ w).alloc (Nat.le_refl _) _⟩
    · have hq : ∀ w, (binOp .eql 32 (.slice (some a) l.length cap) (.slice none 0 0)).run Tryz.prog w = .ok (.bool false) w := fun w => Lib.run_eql_slice_nil w _ _ _ _ _ _ _ Tryz.underlying32
      have ha' := ha (List.length_pos_iff.2 h0)
      injection ha' with ha'
      subst ha'
      have HS : Hid (∀ j u, (flat l)[j]? = some u → w.cell? ⟨b, off + j, none⟩ = some u) := hc.flat
      clear ha hn hc
      go_enter Tryz.func97, Tryz.ntmps97
      go_wp2_with (at_builtin; refine wpList_append_own _ rfl (.tmp 5) (.tmp 6) 32 rfl w.heap.size 47 i0 (.agg #[.int .i64 0, .int .i64 0, .int .i64 0]) 3 24 Tryz.underlying32 HI.out.1 HI.out.2.1 HI.out.2.2.1 HI.out.2.2.2 rfl (by decide) (.slice (some ⟨w.heap.size, 0, none⟩) 0 0) 0 [] rfl (World.ownsRow_made w #[] 0 (Nat.le_refl _) (Nat.zero_le _) rfl) ⟨b, off, none⟩ l.length cap (flat l) rfl (flat_length l) (fun j u hj => by rw [Addr.add_lit]; have h1 := HS.out j u hj; rw [World.cell?_alloc_lt _ _ _ (World.block_lt_of_cell? w _ h1)]; exact h1) (flat_one l) (by unfold maxLen; omega) (by omega) (by simp) ?_; intro v1 w1 hown1 hgr1 hnil1)
      go_ret
      exact ⟨_, rfl, by simpa using hown1, ((Below.refl _ w).alloc (Nat.le_refl _) _).grown hgr1 (by simp) (by intro k hk; simp [Value.ownBlock] at hk; omega)⟩
end Go.Proofs.YtccjognnehoodahGreat

namespace Go.Proofs.YtccjognnehoodahGreat
open Go.RowKit

theorem zero_intsQ (w : World) : (zeroValue 28).run Tryz.prog w = .ok (.slice none 0 0) w := by kernel_rfl
theorem zero_seensQ (w : World) : (zeroValue 32).run Tryz.prog w = .ok (.slice none 0 0) w := by kernel_rfl
theorem zero_intQ (w : World) : (zeroValue 3).run Tryz.prog w = .ok (.int .i64 0) w := by kernel_rfl
section
variable {w0 w : World} {R : Nat} {S F : Value} {q : Crs} {c : CLay}
theorem CrsAt.wrotes (h : CrsAt w0 w R S F q c) {t : Int} (h1 : 1 ≤ t) (h6 : t ≤ 6) : ∃ ad cap, c.wv t = .slice ad (q.wrote t).length cap ∧ IsInts w (.slice ad (q.wrote t).length cap) (q.wrote t) := by
  obtain ⟨d, rfl⟩ : ∃ d : Nat, t = d := ⟨t.toNat, by omega⟩
  have hr := h.wrow d (by omega)
  obtain ⟨ad, cap, e, -⟩ := own_slice3 hr
  exact ⟨ad, cap, e, by rw [← e]; exact isInts_own hr rfl⟩
theorem CrsAt.reads (h : CrsAt w0 w R S F q c) {t : Int} (h1 : 1 ≤ t) (h6 : t ≤ 6) : ∃ ad cap, c.rv t = .slice ad (q.read t).length cap ∧ IsOps w (.slice ad (q.read t).length cap) (q.read t) := by
  obtain ⟨d, rfl⟩ : ∃ d : Nat, t = d := ⟨t.toNat, by omega⟩
  have hr := h.rrow d (by omega)
  obtain ⟨ad, cap, e, -⟩ := own_slice3 hr
  exact ⟨ad, cap, e, by rw [← e]; exact isOps_row hr rfl⟩
end
set_option maxHeartbeats 4000000 in
theorem wrote_crs {w0 w : World} {R : Nat} {S F : Value} {q : Crs} {c : CLay} (h : CrsAt w0 w R S F q c) {t : Int} (h1 : 1 ≤ t) (h6 : t ≤ 6) (item : Int) (hl : (q.wrote t).length ≤ 1000) :
    Calls Tryz.prog 63 #[.pointer (some ⟨R, 0, none⟩), .int .i64 t, .int .i64 item] w fun e w' => e = .returned (.bool (inB (q.wrote t) item)) ∧ w' = w := by
  have c5 := h.c5
  obtain ⟨m, hm⟩ := h.wr
  have HM := hid_q hm
  obtain ⟨ad, cap, hv, hI⟩ := h.wrotes h1 h6
  have HV : Hid ((c.hw t).getD (.slice none 0 0) = .slice ad (q.wrote t).length cap) := hv
  have HC := hid_q (contains_nums (q.wrote t) _ item w hI hl)
  have hwf := wf_deal h1 h6
  obtain ⟨n, hn⟩ : ∃ n, (q.wrote t).length = n := ⟨_, rfl⟩
  rw [hn] at HV HC
  clear h hm hv hI h1 h6 hl hn
  go_enter Tryz.func63, Tryz.ntmps63
  go_wp2_with (first | (at_lookup; refine wp_look _ rfl (.tmp 10) (.tmp 11) 115 false rfl 28 Tryz.underlying115 (.slice none 0 0) (zero_intsQ _) c.W m c.hw rfl HM.out t rfl hwf (.slice ad n cap) _ HV.out rfl ?_) | (go_at_call 46; refine HC.out.mono ?_; rintro e w1 ⟨rfl, hw1⟩; rw [hw1]; clear hw1))
  go_ret
  exact ⟨rfl, rfl⟩
set_option maxHeartbeats 4000000 in
theorem read_crs {w0 w : World} {R : Nat} {S F : Value} {q : Crs} {c : CLay} (h : CrsAt w0 w R S F q c) {t : Int} (h1 : 1 ≤ t) (h6 : t ≤ 6) (hl : (q.read t).length ≤ 1000) :
    Calls Tryz.prog 57 #[.pointer (some ⟨R, 0, none⟩), .int .i64 t] w fun e w' => ∃ v', e = .returned v' ∧ w'.ownsRow w.heap.size 47 3 v' (q.read t).length (flat (q.read t)) ∧ Below w.heap.size w w' := by
  have c4 := h.c4
  obtain ⟨m, hm⟩ := h.rd
  have HM := hid_q hm
  obtain ⟨ad, cap, hv, hI⟩ := h.reads h1 h6
  have HV : Hid ((c.hr t).getD (.slice none 0 0) = .slice ad (q.read t).length cap) := hv
  have HC := hid_q (clone_seen (q.read t) _ w hI hl)
  have hwf := wf_deal h1 h6
  obtain ⟨n, hn⟩ : ∃ n, (q.read t).length = n := ⟨_, rfl⟩
  rw [hn] at HV HC
  have HN := hid_q hn
  clear h hm hv hI h1 h6 hl hn
  go_enter Tryz.func57, Tryz.ntmps57
  go_wp2_with (first | (at_lookup; refine wp_look _ rfl (.tmp 8) (.tmp 9) 114 false rfl 32 Tryz.underlying114 (.slice none 0 0) (zero_seensQ _) c.D m c.hr rfl HM.out t rfl hwf (.slice ad n cap) _ HV.out rfl ?_) | (go_at_call 97; refine HC.out.mono ?_; rintro e w1 ⟨v1, rfl, ho1, hb1⟩))
  go_ret
  exact ⟨v1, rfl, by rw [HN.out]; exact ho1, hb1⟩
set_option maxHeartbeats 4000000 in
theorem written_crs {w0 w : World} {R : Nat} {S F : Value} {q : Crs} {c : CLay} (h : CrsAt w0 w R S F q c) {t : Int} (h1 : 1 ≤ t) (h6 : t ≤ 6) (hl : (q.wrote t).length ≤ 1000) :
    Calls Tryz.prog 100 #[.pointer (some ⟨R, 0, none⟩), .int .i64 t] w fun e w' => ∃ v', e = .returned v' ∧ w'.ownsRow w.heap.size 3 1 v' (q.wrote t).length ((q.wrote t).map (Value.int .i64)) ∧ Below w.heap.size w w' := by
  have c5 := h.c5
  obtain ⟨m, hm⟩ := h.wr
  have HM := hid_q hm
  obtain ⟨ad, cap, hv, hI⟩ := h.wrotes h1 h6
  have HV : Hid ((c.hw t).getD (.slice none 0 0) = .slice ad (q.wrote t).length cap) := hv
  have HC := hid_q (clone_ints (q.wrote t) _ w hI hl)
  have hwf := wf_deal h1 h6
  obtain ⟨n, hn⟩ : ∃ n, (q.wrote t).length = n := ⟨_, rfl⟩
  rw [hn] at HV HC
  have HN := hid_q hn
  clear h hm hv hI h1 h6 hl hn
  go_enter Tryz.func100, Tryz.ntmps100
  go_wp2_with (first | (at_lookup; refine wp_look _ rfl (.tmp 8) (.tmp 9) 115 false rfl 28 Tryz.underlying115 (.slice none 0 0) (zero_intsQ _) c.W m c.hw rfl HM.out t rfl hwf (.slice ad n cap) _ HV.out rfl ?_) | (go_at_call 53; refine HC.out.mono ?_; rintro e w1 ⟨v1, rfl, ho1, hb1⟩))
  go_ret
  exact ⟨v1, rfl, by rw [HN.out]; exact ho1, hb1⟩
set_option maxHeartbeats 4000000 in
theorem done_crs {w0 w : World} {R : Nat} {S F : Value} {q : Crs} {c : CLay} (h : CrsAt w0 w R S F q c) (hl : q.done.length ≤ 1000) :
    Calls Tryz.prog 75 #[.pointer (some ⟨R, 0, none⟩)] w fun e w' => ∃ v', e = .returned v' ∧ w'.ownsRow w.heap.size 3 1 v' q.done.length (q.done.map (Value.int .i64)) ∧ Below w.heap.size w w' := by
  have c2 := h.c2
  obtain ⟨ad, cap, e1, -⟩ := own_slice3 h.done
  have hI := isInts_own h.done rfl
  rw [e1] at c2 hI
  have HC := hid_q (clone_ints q.done _ w hI hl)
  obtain ⟨n, hn⟩ : ∃ n, q.done.length = n := ⟨_, rfl⟩
  rw [hn] at c2 HC
  have HN := hid_q hn
  clear h hl e1 hI hn
  go_enter Tryz.func75, Tryz.ntmps75
  go_wp2_with (go_at_call 53; refine HC.out.mono ?_; rintro e w1 ⟨v1, rfl, ho1, hb1⟩)
  go_ret
  exact ⟨v1, rfl, by rw [HN.out]; exact ho1, hb1⟩
theorem size_intQ (W : World) : (sizeOf (Tryz.prog.elem 28)).run Tryz.prog W = .ok 1 W := by kernel_rfl
theorem elem_intQ : Tryz.prog.underlying 28 = some (.slice (Tryz.prog.elem 28)) := by kernel_rfl
/-- A row of numbers from its n-th on. -/
theorem own_drop {w : World} {base e : Nat} {v : Value} {l : List Int} (h : w.ownsRow base e 1 v l.length (l.map (Value.int .i64))) {n : Nat} (hn : n ≤ l.length) :
    ∃ ad cap, (∀ W, (Instr.sliceAt 28 v (some (.int .i64 (n : Int))) none none).run Tryz.prog W = .ok (.slice ad (l.length - n) cap) W) ∧ IsInts w (.slice ad (l.length - n) cap) (l.drop n) := by
  have hI := isInts_own h rfl
  obtain ⟨_, ⟨hv, hd⟩ | ⟨g, cap, cur, hv, hb, hg, hnc, hm, hsz, htk⟩⟩ := h
  · have h0 : l = [] := List.length_eq_zero_iff.1 hd
    subst h0
    have hn0 : n = 0 := by simpa using hn
    subst hn0
    refine ⟨none, 0, fun W => ?_, isInts_nil w⟩
    rw [hv, run_sliceAt_slice W _ _ _ _ _ elem_intQ, run_slice_l W _ _ _ _ elem_intQ _ _ (by omega) (by simp), size_intQ]
    rfl
  · refine ⟨if cap = n then some ⟨g, 0, none⟩ else some ⟨g, n, none⟩, cap - n, fun W => ?_, ?_⟩
    · rw [hv, run_sliceAt_slice W _ _ _ _ _ elem_intQ, run_slice_l W _ _ _ _ elem_intQ _ _ (by omega) (by omega), size_intQ]
      simp [Result.andThen, sliced, Addr.add_lit]
    · obtain ⟨ad, b, off, cap', e1, ha, hz, hbB, hc⟩ := hI
      rw [hv] at e1
      injection e1 with e2 e3 e4
      refine ⟨_, b, off + n, _, by rw [List.length_drop], fun hp => ?_, fun hno => (by split at hno <;> cases hno), ?_, fun k hk => ?_⟩
      · rw [List.length_drop] at hp
        have h2 := ha (by omega)
        rw [← e2] at h2
        injection h2 with h2
        injection h2 with h2 h3
        rw [if_neg (by omega), ← h2, ← h3]
        simp
      · rcases hbB with h5 | h5
        · exact .inl h5
        · exact .inr (by rw [h5]; simp)
      · rw [List.length_drop] at hk
        rw [Nat.add_assoc, hc (n + k) (by omega)]
        simp [List.getD]
/-- A row of numbers up to its n-th. -/
theorem own_front {w : World} {base e : Nat} {v : Value} {l : List Int} (h : w.ownsRow base e 1 v l.length (l.map (Value.int .i64))) {n : Nat} (hn : n ≤ l.length) :
    ∃ ad cap, (∀ W, (Instr.sliceAt 28 v none (some (.int .i64 (n : Int))) none).run Tryz.prog W = .ok (.slice ad n cap) W) ∧ IsInts w (.slice ad n cap) (l.take n) := by
  have hI := isInts_own h rfl
  have hlt : (l.take n).length = n := by rw [List.length_take]; omega
  obtain ⟨_, ⟨hv, hd⟩ | ⟨g, cap, cur, hv, hb, hg, hnc, hm, hsz, htk⟩⟩ := h
  · have h0 : l = [] := List.length_eq_zero_iff.1 hd
    subst h0
    have hn0 : n = 0 := by simpa using hn
    subst hn0
    refine ⟨none, 0, fun W => ?_, isInts_nil w⟩
    rw [hv, run_sliceAt_slice W _ _ _ _ _ elem_intQ, run_slice_h W _ _ _ _ elem_intQ _ _ (by omega) (by simp), size_intQ]
    rfl
  · refine ⟨some ⟨g, 0, none⟩, cap, fun W => ?_, ?_⟩
    · rw [hv, run_sliceAt_slice W _ _ _ _ _ elem_intQ, run_slice_h W _ _ _ _ elem_intQ _ _ (by omega) (by omega), size_intQ]
      simp [Result.andThen, sliced, Addr.add_lit]
    · obtain ⟨ad, b, off, cap', e1, ha, hz, hbB, hc⟩ := hI
      rw [hv] at e1
      injection e1 with e2 e3 e4
      refine ⟨_, b, off, _, by rw [hlt], fun hp => ?_, fun hno => (by cases hno), ?_, fun k hk => ?_⟩
      · rw [hlt] at hp
        have h2 := ha (by omega)
        rw [← e2] at h2
        exact h2
      · rcases hbB with h5 | h5
        · exact .inl h5
        · exact .inr (by rw [h5]; simp)
      · rw [hlt] at hk
        rw [hc k (by omega)]
        simp [List.getD, hk]
set_option maxHeartbeats 4000000 in
set_option maxRecDepth 100000 in
theorem since_crs {w0 w : World} {R : Nat} {S F : Value} {q : Crs} {c : CLay} (h : CrsAt w0 w R S F q c) {t : Int} (h1 : 1 ≤ t) (h6 : t ≤ 6) {n : Nat} (hn : q.began t = some n) (hnl : n ≤ q.done.length) (hl : q.done.length ≤ 1000) :
    Calls Tryz.prog 59 #[.pointer (some ⟨R, 0, none⟩), .int .i64 t] w fun e w' => ∃ v', e = .returned v' ∧ IsInts w' v' (q.done.drop n) ∧ Below w.heap.size w w' := by
  have c2 := h.c2
  have c3 := h.c3
  obtain ⟨m, hm⟩ := h.beg
  have hwf := wf_deal h1 h6
  obtain ⟨ad1, cap1, e1, -⟩ := own_slice3 h.done
  have hrow := h.done
  rw [e1] at hrow c2
  obtain ⟨ad2, cap2, hsl, hI⟩ := own_drop hrow hnl
  have hg : (begM q.began t).getD (.int .i64 0) = .int .i64 (n : Int) := by unfold begM; rw [hn]; rfl
  have hlk0 : (Instr.lookup 81 (.map (some c.B)) (.int .i64 t) false).run Tryz.prog w.drew = .ok (.int .i64 (n : Int)) w.drew := by
    have := (MapIs.drew hm).look false Tryz.underlying81 (zero_intQ _) hwf
    rw [hg] at this
    exact this
  obtain ⟨M, hM⟩ : ∃ M, q.done.length - n = M := ⟨_, rfl⟩
  obtain ⟨N, hN⟩ : ∃ N, q.done.length = N := ⟨_, rfl⟩
  rw [hM] at hsl hI
  rw [hN] at hsl c2
  have HC : Hid (∀ W, Below w.heap.size w W → Calls Tryz.prog 53 #[.slice ad2 M cap2] W fun e w' => ∃ v', e = .returned v' ∧ w'.ownsRow W.heap.size 3 1 v' (q.done.drop n).length ((q.done.drop n).map (Value.int .i64)) ∧ Below W.heap.size W w') := fun W hW =>
    clone_ints (q.done.drop n) _ W (hI.below hW (Nat.le_refl _)) (by rw [List.length_drop]; omega)
  have HKC : Hid (∀ W, Below w.heap.size w W → W.cell? ⟨R, 2, none⟩ = some (.slice ad1 N cap1) ∧ W.cell? ⟨R, 3, none⟩ = some (.map (some c.B))) := fun W hW => ⟨(hW.cell (p := ⟨R, 2, none⟩) h.lt).trans c2, (hW.cell (p := ⟨R, 3, none⟩) h.lt).trans c3⟩
  clear h hm h1 h6 hn hnl hl e1 hrow hI hg hM hN
  go_enter Tryz.func59, Tryz.ntmps59
  go_upto_region 1 with (fail)
  go_region_held3 (fun w' => w'.cell? ⟨R, 2, none⟩ = some (.slice ad1 N cap1) ∧ w'.cell? ⟨R, 3, none⟩ = some (.map (some c.B))) (first | exact ⟨ke0, ke1⟩ | exact ⟨c2, c3⟩) (first | (go_at_call 53; refine (HC.out _ (Below.refl _ w).drew).mono ?_; rintro e w1 ⟨v1, rfl, ho1, hb0⟩; have hb1 : Below w.heap.size w w1 := (Below.refl _ w).drew.trans hb0; clear hb0; obtain ⟨ke0, ke1⟩ := HKC.out w1 hb1))
  all_goals
    go_wp2_with fail
    go_ret
    exact ⟨_, rfl, isInts_own ho1 rfl, hb1⟩
end Go.Proofs.YtccjognnehoodahGreat
