/-
  PROVED HERE: a row of one's own of which the slice shows a later piece (s = s[1:]), what append makes of it, and where it lies then: where it lay, or in a new block.
  Conditions: as the library's laws of append have them.
  PROVED HERE: how a run of deals that keep locks (strict.lane: a way, a table, what is told, who is aborted, who waits for what, what stands behind) lies in memory: a block, a table, three maps and seven rows of its own, all apart; what becomes of it when one of its parts is set.
  Conditions: none.
-/
import Derived.Test.YtccjognnehoodahGreatMgax
import Derived.Test.YtccjognnehoodahGreatMgbh
import Derived.Test.YtccjognnehoodahGreatMgbq
import Derived.Test.YtccjognnehoodahGreatMgbs
namespace Go.Proofs.YtccjognnehoodahGreat
open Go.RowKit

/-- A slice that shows a piece of a row of one's own. -/
def Tail (w : World) (base : Nat) (e : TypeId) (size : Nat) (v : Value) (n : Nat) (xs : List Value) : Prop :=
  xs.length = n * size ∧ ((v = .slice none 0 0 ∧ n = 0) ∨ ∃ g off cap cur, v = .slice (some ⟨g, off, none⟩) n cap ∧ base ≤ g ∧ w.heap[g]? = some (.cells cur e (0, 0)) ∧ n ≤ cap ∧ off + cap * size ≤ cur.size ∧ ∀ j u, xs[j]? = some u → w.cell? ⟨g, off + j, none⟩ = some u)
theorem tail_nil (w : World) (base : Nat) (e : TypeId) (size : Nat) : Tail w base e size (.slice none 0 0) 0 [] := ⟨by simp, .inl ⟨rfl, rfl⟩⟩
theorem tail_of_own {w : World} {base e size n : Nat} {v : Value} {xs : List Value} (h : w.ownsRow base e size v n xs) : Tail w base e size v n xs := by
  have h' := h
  obtain ⟨hl, hd | ⟨g, cap, cur, hv, hbg, hg, hn, hm, hsz, htk⟩⟩ := h
  · exact ⟨hl, .inl hd⟩
  · refine ⟨hl, .inr ⟨g, 0, cap, cur, hv, hbg, hg, hn, by omega, fun j u hj => ?_⟩⟩
    have := h'.cells (g := g) (by rw [hv]; rfl) j u hj
    rw [Addr.add_lit] at this
    exact this
theorem Tail.lt {w : World} {base e size n : Nat} {v : Value} {xs : List Value} (h : Tail w base e size v n xs) : ∀ k, v.ownBlock = some k → base ≤ k ∧ k < w.heap.size := by
  intro k hk
  obtain ⟨_, ⟨hv, _⟩ | ⟨g, off, cap, cur, hv, hbg, hg, _⟩⟩ := h
  · rw [hv] at hk; simp [Value.ownBlock] at hk
  · rw [hv] at hk
    simp only [Value.ownBlock, Option.some.injEq] at hk
    subst hk
    exact ⟨hbg, (Array.getElem?_eq_some_iff.1 hg).1⟩
theorem Tail.less {w : World} {base base2 e size n : Nat} {v : Value} {xs : List Value} (h : Tail w base e size v n xs) (hb : base2 ≤ base) : Tail w base2 e size v n xs := by
  obtain ⟨hl, hd | ⟨g, off, cap, cur, hv, hbg, h1⟩⟩ := h
  · exact ⟨hl, .inl hd⟩
  · exact ⟨hl, .inr ⟨g, off, cap, cur, hv, Nat.le_trans hb hbg, h1⟩⟩
theorem Tail.same {w w1 : World} {base e size n : Nat} {v : Value} {xs : List Value} (h : Tail w base e size v n xs) (hb : ∀ g, v.ownBlock = some g → w1.heap[g]? = w.heap[g]?) : Tail w1 base e size v n xs := by
  obtain ⟨hl, hd | ⟨g, off, cap, cur, hv, hbg, hg, hn, hsz, hc⟩⟩ := h
  · exact ⟨hl, .inl hd⟩
  · have he := hb g (by rw [hv]; rfl)
    exact ⟨hl, .inr ⟨g, off, cap, cur, hv, hbg, he.trans hg, hn, hsz, fun j u hj => (World.cell?_of_block (a := ⟨g, off + j, none⟩) he).trans (hc j u hj)⟩⟩
theorem block_setCells (b : Nat) : ∀ (vs : List Value) (o : Nat) (w : World) (cur : Array Value) (e : TypeId), w.heap[b]? = some (.cells cur e (0, 0)) → ∃ cur', (w.setCells b o vs).heap[b]? = some (.cells cur' e (0, 0)) ∧ cur'.size = cur.size
  | [], _, _, cur, _, h => ⟨cur, h, rfl⟩
  | v :: r, o, w, cur, e, h => by
    obtain ⟨cur', h1, h2⟩ := block_setCells b r (o + 1) (w.setCell ⟨b, o, none⟩ v) (cur.setIfInBounds o v) e (by unfold World.setCell; simp [Array.getElem?_modify, h])
    exact ⟨cur', h1, by simpa using h2⟩
theorem grown_setCells (b : Nat) : ∀ (vs : List Value) (o : Nat) (w : World), w.grownBy (w.setCells b o vs) (some b)
  | [], _, w => ⟨rfl, rfl, rfl, Nat.le_refl _, fun _ _ _ => rfl⟩
  | v :: r, o, w => by
    have h := grown_setCells b r (o + 1) (w.setCell ⟨b, o, none⟩ v)
    refine ⟨h.os, h.tape, h.output, ?_, fun k hk hne => ?_⟩
    · have h2 := h.size
      have h3 : (w.setCell ⟨b, o, none⟩ v).heap.size = w.heap.size := by simp
      show w.heap.size ≤ ((w.setCell ⟨b, o, none⟩ v).setCells b (o + 1) r).heap.size
      omega
    · exact (h.block k (by simpa using hk) hne).trans (Below.heap_setCell w ⟨b, o, none⟩ v k (fun e => hne (by rw [e])))
theorem run_append_tail {P : Program} (w : World) (base : Nat) (t ty e : TypeId) (i : TypeInfo) (z : Value) (size bytes : Nat) (ht : P.underlying t = some (.slice e)) (hi : P.info? e = some i) (hz : i.zero = some z)
    (hsize : i.size = size) (hby : i.bytes = bytes) (hzs : z.cells.size = size) (hsz : 0 < size)
    (v : Value) (n : Nat) (xs : List Value) (hown : Tail w base e size v n xs)
    (a : Addr) (m c : Nat) (news : List Value) (hl : news.length = m * size) (hnews : ∀ j u, news[j]? = some u → w.cell? (a.add j) = some u) (h1 : ∀ u ∈ news, u.oneCell' = true)
    (h63 : n + m ≤ maxLen) (hbytes : (n + m) * bytes ≤ 140737488355328) (hbase : base ≤ w.heap.size) :
    ∃ v' w', (Builtin.append_ #[t, t] ty #[v, .slice (some a) m c]).run P w = .ok v' w' ∧ Tail w' base e size v' (n + m) (xs ++ news) ∧ w.grownBy w' v.ownBlock ∧
      ∀ g, v'.ownBlock = some g → v.ownBlock = some g ∨ w.heap.size ≤ g := by
  have hown' := hown
  obtain ⟨hxl, ⟨rfl, rfl⟩ | ⟨g, off, cap, cur, rfl, hbg, hg, hnc, hcs, hcell⟩⟩ := hown
  · have hx : xs = [] := List.eq_nil_of_length_eq_zero (by simpa using hxl)
    subst hx
    obtain ⟨v', w', hr, ho, hgr, -⟩ := run_append_own (P := P) w w.heap.size t ty e i z size bytes ht hi hz hsize hby hzs hsz (.slice none 0 0) 0 [] (World.ownsRow_nil w _ e size) a m c news hl hnews h1 h63 hbytes (Nat.le_refl _)
    exact ⟨v', w', hr, (tail_of_own ho).less hbase, hgr, fun g hg => .inr (ho.lt g hg).1⟩
  · by_cases hroom : n + m ≤ cap
    · subst hsize
      have hfit : n * i.size + news.length ≤ cap * i.size := by rw [hl, ← Nat.add_mul]; exact Nat.mul_le_mul_right _ hroom
      have hcells : ∀ j, j < news.length → (w.cell? ⟨g, off + n * i.size + j, none⟩).isSome = true := fun j hj => by
        rw [cell_of_row w g _ _ _ _ hg, Array.getElem?_eq_getElem (by omega)]
        rfl
      have hr := run_append_room_cells (P := P) w t ty e i ht hi g off n cap a m c news hl hnews h1 hroom hcells (fun j _ => by simp [World.frozen?, hg])
      obtain ⟨cur', hg', hsz'⟩ := block_setCells g news (off + n * i.size) w cur e hg
      refine ⟨_, _, hr, ⟨by rw [List.length_append, hxl, hl, Nat.add_mul], .inr ⟨g, off, cap, cur', rfl, hbg, hg', hroom, by omega, fun j u hj => ?_⟩⟩, grown_setCells g news _ w, fun q hq => .inl (by simpa [Value.ownBlock] using hq)⟩
      rcases Nat.lt_or_ge j xs.length with hjx | hjx
      · rw [List.getElem?_append_left hjx] at hj
        rw [World.cell?_setCells_out g news _ w _ (fun _ _ => .inl (by simp; omega))]
        exact hcell j u hj
      · rw [List.getElem?_append_right hjx] at hj
        have hjn := (List.getElem?_eq_some_iff.1 hj)
        obtain ⟨hjl, hju⟩ := hjn
        have := World.cell?_setCells_in g news (off + n * i.size) w hcells (j - xs.length) hjl
        rw [show off + n * i.size + (j - xs.length) = off + j by omega, hju] at this
        exact this
    · obtain ⟨v', w', hr, ho, hgr⟩ := run_append_arg_grows (P := P) w t ty e i z size bytes ht hi hz hsize hby hzs hsz ⟨g, off, none⟩ n cap xs hxl (fun j u hj => by rw [Addr.add_lit]; exact hcell j u hj) a m c news hl hnews (by omega) h63 hbytes
      exact ⟨v', w', hr, (tail_of_own ho).less hbase, ⟨hgr.os, hgr.tape, hgr.output, hgr.size, fun k hk _ => hgr.block k hk (by simp)⟩, fun q hq => .inr (ho.lt q hq).1⟩
/-- As one step of a region that draws. -/
theorem step_append_tail {P : Program} {ops : Array Oper} {o : Oper} {a : Act} {w : World} {K : Act → World → Prop} {Q : Exit → Act → World → Prop} {E : Prop}
    (hgd : o.guard = none) (s x : Operand) (t : TypeId) (ho : o.op = .call { callee := .builtin .append, args := #[s, x], argTypes := #[t, t] })
    (base : Nat) (e : TypeId) (i : TypeInfo) (z : Value) (size bytes : Nat) (ht : P.underlying t = some (.slice e)) (hi : P.info? e = some i) (hz : i.zero = some z)
    (hsize : i.size = size) (hby : i.bytes = bytes) (hzs : z.cells.size = size) (hsz : 0 < size)
    (v : Value) (n : Nat) (xs : List Value) (hs : a.eval s = v) (hown : Tail w base e size v n xs)
    (ad : Addr) (m c : Nat) (news : List Value) (hx : a.eval x = .slice (some ad) m c) (hl : news.length = m * size) (hnews : ∀ j u, news[j]? = some u → w.cell? (ad.add j) = some u) (h1 : ∀ u ∈ news, u.oneCell' = true)
    (h63 : n + m ≤ maxLen) (hbytes : (n + m) * bytes ≤ 140737488355328) (hbase : base ≤ w.heap.size)
    (h : ∀ v' w', Tail w' base e size v' (n + m) (xs ++ news) → w.grownBy w' v.ownBlock → (∀ g, v'.ownBlock = some g → v.ownBlock = some g ∨ w.heap.size ≤ g) → K (a.put o.dst v') w') :
    if Region.wanted o (yielded ops a.tmps) = true then Oper.wp P o a w K Q else E := by
  have hw : Region.wanted o (yielded ops a.tmps) = true := by simp [Region.wanted, hgd]
  rw [if_pos hw]
  obtain ⟨v', w', hr, h2, h3, h4⟩ := run_append_tail (P := P) w base t o.type e i z size bytes ht hi hz hsize hby hzs hsz v n xs hown ad m c news hl hnews h1 h63 hbytes hbase
  unfold Oper.wp execOp
  simp only [ho, resolve, invoke, builtin, Sem.run_bind, Sem.run_pure, Result.andThen_ok, List.map_toArray, List.map_cons, List.map_nil, hs, hx, hr]
  exact h v' w' h2 h3 h4
/-- s = s[1:]. -/
theorem Tail.pop {w : World} {base e size n g off cap : Nat} {xs : List Value} (h : Tail w base e size (.slice (some ⟨g, off, none⟩) (n + 1) cap) (n + 1) xs) (ad : Addr) (ha : ad = ⟨g, off + size, none⟩ ∨ (cap = 1 ∧ ad = ⟨g, off, none⟩)) : Tail w base e size (.slice (some ad) n (cap - 1)) n (xs.drop size) := by
  obtain ⟨hxl, ⟨hv, _⟩ | ⟨g2, off2, cap2, cur, hv, hbg, hg, hnc, hcs, hcell⟩⟩ := h
  · cases hv
  · simp only [Value.slice.injEq, Option.some.injEq, Addr.mk.injEq, and_true, true_and] at hv
    obtain ⟨⟨rfl, rfl⟩, rfl⟩ := hv
    refine ⟨by rw [List.length_drop, hxl, Nat.add_mul]; omega, .inr ?_⟩
    have hcap : (cap - 1) * size + size = cap * size := by
      have : cap = (cap - 1) + 1 := by omega
      rw [this]
      simp [Nat.add_mul]
    rcases ha with rfl | ⟨rfl, rfl⟩
    · refine ⟨g, off + size, cap - 1, cur, rfl, hbg, hg, by omega, by omega, fun j u hj => ?_⟩
      rw [List.getElem?_drop] at hj
      rw [Nat.add_assoc]
      exact hcell _ u hj
    · obtain rfl : n = 0 := by omega
      refine ⟨g, off, 0, cur, rfl, hbg, hg, Nat.le_refl _, by simp at hcs ⊢; omega, fun j u hj => ?_⟩
      rw [List.getElem?_drop, List.getElem?_eq_none (by omega)] at hj
      cases hj
end Go.Proofs.YtccjognnehoodahGreat

namespace Go.Proofs.YtccjognnehoodahGreat
open Go.RowKit

/-- Where the parts lie. -/
structure Lay where
  T : Nat
  A : Nat
  W : Nat
  B : Nat
  F : Nat → Prop
  tv : Value
  h : Int → Option Value
def Lay.bv (c : Lay) (d : Int) : Value := (c.h d).getD (.slice none 0 0)
def part (R : Nat) (c : Lay) (i k : Nat) : Prop :=
  match i with
  | 0 => k = R
  | 1 => c.F k
  | 2 => c.tv.ownBlock = some k
  | 3 => k = c.A
  | 4 => k = c.W
  | 5 => k = c.B
  | d + 6 => (c.bv (d : Int)).ownBlock = some k
def feet (R : Nat) (c : Lay) (k : Nat) : Prop := ∃ i, i < 13 ∧ part R c i k
def laneCells (way : Int) (c : Lay) : Array Value := #[.int .i64 way, .pointer (some ⟨c.T, 0, none⟩), c.tv, .map (some c.A), .map (some c.W), .map (some c.B)]
/-- A run in memory; g: the map of those that wait. -/
structure LaneAt (w : World) (R : Nat) (way : Int) (r : Runr) (g : Int → Option Value) (c : Lay) : Prop where
  blk : w.heap[R]? = some (.cells (laneCells way c) 91 (0, 0))
  tab : PTab w c.T c.F r.tab
  told : w.ownsRow 0 51 3 c.tv r.told.length (flat r.told)
  outs : MapIs w c.A (victF r.vict) r.vict.length
  wts : ∃ m, MapIs w c.W g m
  beh : ∃ m, MapIs w c.B c.h m
  rows : ∀ d : Nat, d < 7 → Tail w 0 51 3 (c.bv (d : Int)) (r.behind (d : Int)).length (flat (r.behind (d : Int)))
  apart : ∀ i j k, i < 13 → j < 13 → i ≠ j → part R c i k → part R c j k → False
/-- The blocks of some parts. -/
def ofs (R : Nat) (c : Lay) (J : Nat → Prop) (k : Nat) : Prop := ∃ i, i < 13 ∧ J i ∧ part R c i k
section
variable {w w1 : World} {R : Nat} {way : Int} {r r1 : Runr} {g g1 : Int → Option Value} {c c1 : Lay} {F J : Nat → Prop}
theorem LaneAt.part_lt (h : LaneAt w R way r g c) : ∀ i k, i < 13 → part R c i k → k < w.heap.size := by
  intro i k hi hk
  match i, hk with
  | 0, hk => rw [show k = R from hk]; exact (Array.getElem?_eq_some_iff.1 h.blk).1
  | 1, hk => exact locksQ.lt h.tab k hk
  | 2, hk => exact (h.told.lt k hk).2
  | 3, hk => rw [show k = c.A from hk]; exact h.outs.lt
  | 4, hk => rw [show k = c.W from hk]; exact h.wts.elim fun _ h => h.lt
  | 5, hk => rw [show k = c.B from hk]; exact h.beh.elim fun _ h => h.lt
  | d + 6, hk => exact ((h.rows d (by omega)).lt k hk).2
theorem LaneAt.lt (h : LaneAt w R way r g c) : R < w.heap.size := h.part_lt 0 R (by omega) rfl
theorem LaneAt.feet_lt (h : LaneAt w R way r g c) {k : Nat} (hk : feet R c k) : k < w.heap.size := by
  obtain ⟨i, hi, hk⟩ := hk
  exact h.part_lt i k hi hk
theorem LaneAt.keep (h : LaneAt w R way r g c) {i : Nat} (hi : i < 13) (hj : ¬ J i) : ∀ k, part R c i k → ¬ ofs R c J k := fun k hk ⟨j, hj1, hj2, hj3⟩ => h.apart i j k hi hj1 (fun e => hj (e ▸ hj2)) hk hj3
theorem LaneAt.blkT (h : LaneAt w R way r g c) (ht : Turns F w w1) (hF : ∀ k, part R c 0 k → ¬ F k) : w1.heap[R]? = some (.cells (laneCells way c) 91 (0, 0)) := (ht.block R h.lt (hF R rfl)).trans h.blk
theorem LaneAt.tabT (h : LaneAt w R way r g c) (ht : Turns F w w1) (hF : ∀ k, part R c 1 k → ¬ F k) : PTab w1 c.T c.F r.tab := locksQ.stays _ h.tab ht fun k hk => hF k hk
theorem LaneAt.toldT (h : LaneAt w R way r g c) (ht : Turns F w w1) (hF : ∀ k, part R c 2 k → ¬ F k) : w1.ownsRow 0 51 3 c.tv r.told.length (flat r.told) := ht.own h.told fun k hk => hF k hk
theorem LaneAt.outsT (h : LaneAt w R way r g c) (ht : Turns F w w1) (hF : ∀ k, part R c 3 k → ¬ F k) : MapIs w1 c.A (victF r.vict) r.vict.length := h.outs.turn ht (hF _ rfl)
theorem LaneAt.wtsT (h : LaneAt w R way r g c) (ht : Turns F w w1) (hF : ∀ k, part R c 4 k → ¬ F k) : ∃ m, MapIs w1 c.W g m := h.wts.elim fun m h1 => ⟨m, h1.turn ht (hF _ rfl)⟩
theorem LaneAt.behT (h : LaneAt w R way r g c) (ht : Turns F w w1) (hF : ∀ k, part R c 5 k → ¬ F k) : ∃ m, MapIs w1 c.B c.h m := h.beh.elim fun m h1 => ⟨m, h1.turn ht (hF _ rfl)⟩
theorem LaneAt.rowsT (h : LaneAt w R way r g c) (ht : Turns F w w1) {d : Nat} (hd : d < 7) (hF : ∀ k, part R c (d + 6) k → ¬ F k) : Tail w1 0 51 3 (c.bv (d : Int)) (r.behind (d : Int)).length (flat (r.behind (d : Int))) :=
  (h.rows d hd).same fun k hk => ht.block k ((h.rows d hd).lt k hk).2 (hF k hk)
theorem LaneAt.turn (h : LaneAt w R way r g c) (ht : Turns F w w1) (hF : ∀ k, feet R c k → ¬ F k) : LaneAt w1 R way r g c :=
  have hp : ∀ i, i < 13 → ∀ k, part R c i k → ¬ F k := fun i hi k hk => hF k ⟨i, hi, hk⟩
  ⟨h.blkT ht (hp 0 (by omega)), h.tabT ht (hp 1 (by omega)), h.toldT ht (hp 2 (by omega)), h.outsT ht (hp 3 (by omega)), h.wtsT ht (hp 4 (by omega)), h.behT ht (hp 5 (by omega)), fun d hd => h.rowsT ht hd (hp (d + 6) (by omega)), h.apart⟩
theorem LaneAt.below (h : LaneAt w R way r g c) (hb : Below w.heap.size w w1) : LaneAt w1 R way r g c := h.turn (Turns.of_below (F := fun _ => False) hb) fun _ _ hf => hf
theorem LaneAt.congr (h : LaneAt w R way r g c) (e : ∀ d, g1 d = g d) : LaneAt w R way r g1 c := by
  obtain rfl : g1 = g := funext e
  exact h
/-- A step of it: what it is then, and what has turned. -/
def LaneStep (w w' : World) (R : Nat) (way : Int) (c : Lay) (r' : Runr) (g' : Int → Option Value) : Prop := ∃ c', LaneAt w' R way r' g' c' ∧ Turns (feet R c) w w' ∧ ∀ k, feet R c' k → feet R c k ∨ w.heap.size ≤ k
/-- Some parts have turned, one of them lies otherwise. -/
theorem LaneAt.change (h : LaneAt w R way r g c) (m : Nat) (ht : Turns (ofs R c J) w w1) (hsame : ∀ i, i < 13 → i ≠ m → ∀ k, part R c1 i k → part R c i k) (hm : ∀ k, part R c1 m k → part R c m k ∨ w.heap.size ≤ k) (hm13 : m < 13)
    (blk : w1.heap[R]? = some (.cells (laneCells way c1) 91 (0, 0))) (tab : PTab w1 c1.T c1.F r1.tab) (told : w1.ownsRow 0 51 3 c1.tv r1.told.length (flat r1.told)) (outs : MapIs w1 c1.A (victF r1.vict) r1.vict.length)
    (wts : ∃ m, MapIs w1 c1.W g1 m) (beh : ∃ m, MapIs w1 c1.B c1.h m) (rows : ∀ d : Nat, d < 7 → Tail w1 0 51 3 (c1.bv (d : Int)) (r1.behind (d : Int)).length (flat (r1.behind (d : Int)))) : LaneStep w w1 R way c r1 g1 := by
  have hp : ∀ i k, i < 13 → part R c1 i k → part R c i k ∨ (i = m ∧ w.heap.size ≤ k) := fun i k hi hk => by
    by_cases e : i = m
    · subst e
      rcases hm k hk with h1 | h1
      · exact .inl h1
      · exact .inr ⟨rfl, h1⟩
    · exact .inl (hsame i hi e k hk)
  refine ⟨c1, ⟨blk, tab, told, outs, wts, beh, rows, fun i j k hi hj hij h1 h2 => ?_⟩, ht.mono fun k _ ⟨i, hi, _, hk⟩ => ⟨i, hi, hk⟩, fun k ⟨i, hi, hk⟩ => ?_⟩
  · rcases hp i k hi h1 with h3 | ⟨h3, h4⟩
    · rcases hp j k hj h2 with h5 | ⟨h5, h6⟩
      · exact h.apart i j k hi hj hij h3 h5
      · have := h.part_lt i k hi h3; omega
    · rcases hp j k hj h2 with h5 | ⟨h5, h6⟩
      · have := h.part_lt j k hj h5; omega
      · exact hij (h3.trans h5.symm)
  · rcases hp i k hi hk with h3 | ⟨_, h3⟩
    · exact .inl ⟨i, hi, h3⟩
    · exact .inr h3
theorem LaneStep.same (h : LaneAt w R way r g c) (hb : Below w.heap.size w w1) : LaneStep w w1 R way c r g := ⟨c, h.below hb, Turns.of_below hb, fun _ hk => .inl hk⟩
theorem LaneStep.trans {w2 : World} {r2 : Runr} {g2 : Int → Option Value} (ht : Turns (feet R c) w w1) (hf : ∀ k, feet R c1 k → feet R c k ∨ w.heap.size ≤ k) (h2 : LaneStep w1 w2 R way c1 r2 g2) : LaneStep w w2 R way c r2 g2 := by
  obtain ⟨c2, h3, h4, h5⟩ := h2
  refine ⟨c2, h3, ht.trans h4 fun k hk hk2 => ?_, fun k hk => ?_⟩
  · rcases hf k hk2 with h | h
    · exact h
    · omega
  · rcases h5 k hk with h | h
    · exact hf k h
    · exact .inr (Nat.le_trans ht.size h)
theorem LaneStep.later {w2 : World} {r2 : Runr} {g2 : Int → Option Value} (hb : Below w.heap.size w w1) (h2 : LaneStep w1 w2 R way c r2 g2) : LaneStep w w2 R way c r2 g2 := LaneStep.trans (Turns.of_below hb) (fun _ hk => .inl hk) h2
theorem LaneStep.then_below {w2 : World} (h : LaneStep w w1 R way c r1 g1) (hb : Below w1.heap.size w1 w2) : LaneStep w w2 R way c r1 g1 := by
  obtain ⟨c', h1, h2, h3⟩ := h
  exact ⟨c', h1.below hb, h2.then_below hb, h3⟩
theorem LaneStep.congr {g2 : Int → Option Value} (h : LaneStep w w1 R way c r1 g1) (e : ∀ d, g2 d = g1 d) : LaneStep w w1 R way c r1 g2 := by
  obtain rfl : g2 = g1 := funext e
  exact h
/-- A part and the run's own block have turned. -/
theorem two_turn {i : Nat} (hi : i < 13) (h : Turns (fun k => part R c i k) w w1) (u : Value) (q : Nat) : Turns (ofs R c fun j => j = 0 ∨ j = i) w (w1.setCell ⟨R, q, none⟩ u) :=
  (h.mono fun k _ hk => ⟨i, hi, .inr rfl, hk⟩).setCell (.inl ⟨0, by omega, .inl rfl, rfl⟩) u
theorem one_turn {i : Nat} (hi : i < 13) (h : Turns (fun k => part R c i k) w w1) : Turns (ofs R c fun j => j = i) w w1 := h.mono fun _ _ hk => ⟨i, hi, rfl, hk⟩
/-- Something more is told. -/
theorem LaneAt.pushTold {v : Value} {x : Op3} (h : LaneAt w R way r g c) (ht : Turns (fun k => c.tv.ownBlock = some k) w w1) (hv : w1.ownsRow 0 51 3 v (r.told.length + 1) (flat r.told ++ flat [x])) (hap : ∀ q, v.ownBlock = some q → c.tv.ownBlock = some q ∨ w.heap.size ≤ q) :
    w1.cell? ⟨R, 2, none⟩ = some c.tv ∧ w1.frozen? ⟨R, 2, none⟩ = false ∧ LaneStep w (w1.setCell ⟨R, 2, none⟩ v) R way c { r with told := r.told ++ [x] } g := by
  have hn : ¬ c.tv.ownBlock = some R := fun e => h.apart 0 2 R (by omega) (by omega) (by decide) rfl e
  have hb1 : w1.heap[R]? = some (.cells (laneCells way c) 91 (0, 0)) := (ht.block R h.lt hn).trans h.blk
  refine ⟨by rw [cell_of_row w1 R _ _ _ _ hb1]; rfl, by simp [World.frozen?, hb1], ?_⟩
  have ht2 : Turns (ofs R c fun j => j = 0 ∨ j = 2) w (w1.setCell ⟨R, 2, none⟩ v) := two_turn (i := 2) (by omega) ht v 2
  have hR : ¬ v.ownBlock = some R := fun e => by
    rcases hap R e with h1 | h1
    · exact hn h1
    · have := h.lt; omega
  refine h.change (c1 := { c with tv := v }) 2 ht2 (fun i hi hne k hk => ?_) (fun k hk => hap k hk) (by omega) ?_ (h.tabT ht2 (h.keep (by omega) (by omega))) ?_ (h.outsT ht2 (h.keep (by omega) (by omega))) (h.wtsT ht2 (h.keep (by omega) (by omega))) (h.behT ht2 (h.keep (by omega) (by omega))) fun d hd => h.rowsT ht2 hd (h.keep (by omega) (by omega))
  · match i, hne, hk with
    | 0, _, hk => exact hk
    | 1, _, hk => exact hk
    | 2, hne, _ => exact absurd rfl hne
    | 3, _, hk => exact hk
    | 4, _, hk => exact hk
    | 5, _, hk => exact hk
    | d + 6, _, hk => exact hk
  · rw [block_set hb1]; rfl
  · show World.ownsRow _ _ _ _ v (r.told ++ [x]).length (flat (r.told ++ [x]))
    rw [List.length_append, flat_append]
    have hset : Turns (fun k => k = R) w1 (w1.setCell ⟨R, 2, none⟩ v) := by
      refine Turns.setCell (Turns.refl _ w1) ?_ _
      exact .inl rfl
    exact hset.own hv fun q hq e => hR (e ▸ hq)
/-- A call on its table. -/
theorem LaneAt.setTab {F1 : Nat → Prop} {s1 : Tab2} (h : LaneAt w R way r g c) (hp : PTab w1 c.T F1 s1) (ht : Turns c.F w w1) (hf : ∀ k, F1 k → c.F k ∨ w.heap.size ≤ k) : LaneStep w w1 R way c { r with tab := s1 } g := by
  have ht2 : Turns (ofs R c fun j => j = 1) w w1 := one_turn (i := 1) (by omega) ht
  exact h.change (c1 := { c with F := F1 }) 1 ht2 (fun i hi hne k hk => by
    match i, hne, hk with
    | 0, _, hk => exact hk
    | 1, hne, _ => exact absurd rfl hne
    | 2, _, hk => exact hk
    | 3, _, hk => exact hk
    | 4, _, hk => exact hk
    | 5, _, hk => exact hk
    | d + 6, _, hk => exact hk) hf (by omega) (h.blkT ht2 (h.keep (by omega) (by omega))) hp (h.toldT ht2 (h.keep (by omega) (by omega))) (h.outsT ht2 (h.keep (by omega) (by omega))) (h.wtsT ht2 (h.keep (by omega) (by omega))) (h.behT ht2 (h.keep (by omega) (by omega))) fun d hd => h.rowsT ht2 hd (h.keep (by omega) (by omega))
/-- One more is aborted. -/
theorem LaneAt.setOuts {l : List Int} (h : LaneAt w R way r g c) (hp : MapIs w1 c.A (victF l) l.length) (ht : Turns (fun k => k = c.A) w w1) : LaneStep w w1 R way c { r with vict := l } g := by
  have ht2 : Turns (ofs R c fun j => j = 3) w w1 := one_turn (i := 3) (by omega) ht
  exact h.change (c1 := c) 3 ht2 (fun i hi hne k hk => hk) (fun k hk => .inl hk) (by omega) (h.blkT ht2 (h.keep (by omega) (by omega))) (h.tabT ht2 (h.keep (by omega) (by omega))) (h.toldT ht2 (h.keep (by omega) (by omega))) hp (h.wtsT ht2 (h.keep (by omega) (by omega))) (h.behT ht2 (h.keep (by omega) (by omega))) fun d hd => h.rowsT ht2 hd (h.keep (by omega) (by omega))
/-- Others wait. -/
theorem LaneAt.setWts {m : Nat} (h : LaneAt w R way r g c) (hp : MapIs w1 c.W g1 m) (ht : Turns (fun k => k = c.W) w w1) : LaneStep w w1 R way c r g1 := by
  have ht2 : Turns (ofs R c fun j => j = 4) w w1 := one_turn (i := 4) (by omega) ht
  exact h.change (c1 := c) 4 ht2 (fun i hi hne k hk => hk) (fun k hk => .inl hk) (by omega) (h.blkT ht2 (h.keep (by omega) (by omega))) (h.tabT ht2 (h.keep (by omega) (by omega))) (h.toldT ht2 (h.keep (by omega) (by omega))) (h.outsT ht2 (h.keep (by omega) (by omega))) ⟨m, hp⟩ (h.behT ht2 (h.keep (by omega) (by omega))) fun d hd => h.rowsT ht2 hd (h.keep (by omega) (by omega))
theorem bv_same (c : Lay) (d : Int) (x : Option Value) : ({ c with h := setF c.h d x } : Lay).bv d = x.getD (.slice none 0 0) := by show (setF c.h d x d).getD _ = _; rw [setF_same]
theorem bv_other (c : Lay) {d e : Int} (x : Option Value) (hne : e ≠ d) : ({ c with h := setF c.h d x } : Lay).bv e = c.bv e := by show (setF c.h d x e).getD _ = _; rw [setF_other _ _ hne]; rfl
/-- What stands behind one is another list, in the map of those. w0: its row has turned; w1: the map has. -/
theorem LaneAt.setBeh {w0 : World} {m d : Nat} {x : Option Value} {q : List Op3} (hd : d < 7) (h : LaneAt w R way r g c) (ht0 : Turns (fun k => (c.bv (d : Int)).ownBlock = some k) w w0) (hp : MapIs w1 c.B (setF c.h (d : Int) x) m) (ht : Turns (fun k => k = c.B) w0 w1)
    (hv : Tail w0 0 51 3 (x.getD (.slice none 0 0)) q.length (flat q)) (hap : ∀ k, (x.getD (.slice none 0 0)).ownBlock = some k → (c.bv (d : Int)).ownBlock = some k ∨ w.heap.size ≤ k) : LaneStep w w1 R way c { r with behind := setF r.behind (d : Int) q } g := by
  have ht2 : Turns (ofs R c fun j => j = 5 ∨ j = d + 6) w w1 := (ht0.mono fun k _ hk => ⟨d + 6, by omega, .inr rfl, hk⟩).trans ht fun k _ hk => ⟨5, by omega, .inl rfl, hk⟩
  have hB : ∀ k, (x.getD (.slice none 0 0)).ownBlock = some k → k ≠ c.B := fun k hk e => by
    rcases hap k hk with h1 | h1
    · exact h.apart (d + 6) 5 k (by omega) (by omega) (by omega) h1 e
    · have := h.beh.elim fun _ h => h.lt
      omega
  refine h.change (c1 := { c with h := setF c.h (d : Int) x }) (d + 6) ht2 (fun i hi hne k hk => ?_) (fun k hk => ?_) (by omega) (h.blkT ht2 (h.keep (by omega) (by omega))) (h.tabT ht2 (h.keep (by omega) (by omega))) (h.toldT ht2 (h.keep (by omega) (by omega))) (h.outsT ht2 (h.keep (by omega) (by omega))) (h.wtsT ht2 (h.keep (by omega) (by omega))) ⟨m, hp⟩ fun e he => ?_
  · match i, hne, hk with
    | 0, _, hk => exact hk
    | 1, _, hk => exact hk
    | 2, _, hk => exact hk
    | 3, _, hk => exact hk
    | 4, _, hk => exact hk
    | 5, _, hk => exact hk
    | e + 6, hne, hk =>
      have hk' : (Lay.bv { c with h := setF c.h (d : Int) x } (e : Int)).ownBlock = some k := hk
      rw [bv_other c x (by omega)] at hk'
      exact hk'
  · have hk' : (Lay.bv { c with h := setF c.h (d : Int) x } (d : Int)).ownBlock = some k := hk
    rw [bv_same] at hk'
    exact hap k hk'
  · by_cases e1 : e = d
    · subst e1
      show Tail w1 0 _ 3 _ (setF r.behind (e : Int) q (e : Int)).length (flat (setF r.behind (e : Int) q (e : Int)))
      rw [bv_same, setF_same]
      exact hv.same fun k hk => ht.block k (hv.lt k hk).2 (hB k hk)
    · show Tail w1 0 _ 3 _ (setF r.behind (d : Int) q (e : Int)).length (flat (setF r.behind (d : Int) q (e : Int)))
      rw [bv_other c x (by omega), setF_other _ _ (by omega)]
      exact h.rowsT ht2 he (h.keep (by omega) (by omega))
end
section
variable {w : World} {R : Nat} {way : Int} {r : Runr} {g : Int → Option Value} {c : Lay}
theorem LaneAt.cell (h : LaneAt w R way r g c) (k : Nat) : w.cell? ⟨R, k, none⟩ = (laneCells way c)[k]? := by rw [cell_of_row w R _ _ _ _ h.blk]
theorem LaneAt.c0 (h : LaneAt w R way r g c) : w.cell? ⟨R, 0, none⟩ = some (.int .i64 way) := h.cell 0
theorem LaneAt.c1 (h : LaneAt w R way r g c) : w.cell? ⟨R, 1, none⟩ = some (.pointer (some ⟨c.T, 0, none⟩)) := h.cell 1
theorem LaneAt.c2 (h : LaneAt w R way r g c) : w.cell? ⟨R, 2, none⟩ = some c.tv := h.cell 2
theorem LaneAt.c3 (h : LaneAt w R way r g c) : w.cell? ⟨R, 3, none⟩ = some (.map (some c.A)) := h.cell 3
theorem LaneAt.c4 (h : LaneAt w R way r g c) : w.cell? ⟨R, 4, none⟩ = some (.map (some c.W)) := h.cell 4
theorem LaneAt.c5 (h : LaneAt w R way r g c) : w.cell? ⟨R, 5, none⟩ = some (.map (some c.B)) := h.cell 5
theorem LaneAt.thaw (h : LaneAt w R way r g c) (k : Nat) : w.frozen? ⟨R, k, none⟩ = false := by simp [World.frozen?, h.blk]
end
theorem freeU_ok2 {s : Tab2} (h : TabOk s) (t : Int) : TabOk (freeU s t).2 := by
  unfold freeU
  split
  · exact free_ok h t
  · exact h
/-- Free, on a table, and where those that come to be held lie. -/
theorem pTab_free (w : World) (T : Nat) (F : Nat → Prop) (s : Tab2) (t : Int) (h : PTab w T F s) (hl1 : s.1.length ≤ 400) (hl2 : s.2.length ≤ 400) :
    Calls Tryz.prog 135 #[.pointer (some ⟨T, 0, none⟩), .int .i64 t] w fun e w' => ∃ v', e = .returned (.tuple #[v', errV (freeU s t).1.2]) ∧ w'.ownsRow w.heap.size 166 3 v' (freeU s t).1.1.length (flat (freeU s t).1.1) ∧ ∃ F', PTab w' T F' (freeU s t).2 ∧ Turns F w w' ∧ (∀ k, F' k → F k ∨ w.heap.size ≤ k) ∧ ∀ q, v'.ownBlock = some q → ¬ F' q := by
  obtain ⟨hok, hv, wv, h1, h2⟩ := h
  refine (pFree_row T _ hv wv s t w h1 hl1 hl2 hok.locks.1 hok.locks.2).mono fun _ _ ⟨v', he, hr, hv', wv', hso, ht, htu, hf⟩ => ⟨v', he, hr, foot T hv' wv', ⟨freeU_ok2 hok t, hv', wv', ht, fun _ => Iff.rfl⟩, htu.mono fun k _ hk => (h2 k).2 hk, fun k hk => ?_, hso⟩
  rcases hf k hk with h3 | h3
  · exact .inl ((h2 k).2 h3)
  · exact .inr h3
/-- For, on a table, in a row of its own. -/
theorem pTab_for (w : World) (T : Nat) (F : Nat → Prop) (s : Tab2) (x : Op3) (h : PTab w T F s) (hl1 : s.1.length ≤ 400) (hl2 : s.2.length ≤ 400) :
    Calls Tryz.prog 162 #[.pointer (some ⟨T, 0, none⟩), lkV x] w fun e w' => ∃ v', e = .returned (.tuple #[v', errV (forU s x).2]) ∧ OwnI w' w.heap.size v' (forU s x).1 ∧ Below w.heap.size w w' := by
  obtain ⟨hok, hv, wv, h1, h2⟩ := h
  exact pFor_own T _ hv wv s x w h1 (by omega) (by omega) hok.locks.1 hok.locks.2
end Go.Proofs.YtccjognnehoodahGreat
