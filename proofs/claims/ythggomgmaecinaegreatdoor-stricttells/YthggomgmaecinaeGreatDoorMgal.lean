/-
  PROVED HERE: a row of one's own of which the slice shows a later piece (s = s[1:]), what append makes of it, and where it lies then: where it lay, or in a new block.
  Conditions: as the library's laws of append have them.
  PROVED HERE: how a runner of deals that keep locks (laneref2.Runner: a way, a table, who waits and for which op, what stands behind, who is aborted, what is told, who was aborted) lies in memory: a block of 47 cells and eleven rows of its own, all apart; what becomes of it when one of its parts is set.
  Conditions: none.
-/
import Derived.Test.YthggomgmaecinaeGreatDoorMgak
import Derived.Test.YthggomgmaecinaeGreatDoorMgaf
import Derived.Test.YthggomgmaecinaeGreatDoorMgah
namespace Go.Proofs.YthggomgmaecinaeGreatDoor
open Go.RowKit

/-- A slice that shows a piece of a row of one's own. -/
def Tail (w : World) (base : Nat) (e : TypeId) (size : Nat) (v : Value) (n : Nat) (xs : List Value) : Prop :=
  xs.length = n * size ∧ ((v = .slice none 0 0 ∧ n = 0) ∨ ∃ g off cap cur, v = .slice (some ⟨g, off, none⟩) n cap ∧ base ≤ g ∧ w.heap[g]? = some (.cells cur e (0, 0)) ∧ n ≤ cap ∧ off + cap * size ≤ cur.size ∧ ∀ j u, xs[j]? = some u → w.cell? ⟨g, off + j, none⟩ = some u)
theorem tail_nil (w : World) (base : Nat) (e : TypeId) (size : Nat) : Tail w base e size (.slice none 0 0) 0 [] := ⟨by simp, .inl ⟨rfl, rfl⟩⟩
theorem tail_of_own {w : World} {base e size n : Nat} {v : Value} {xs : List Value} (h : w.ownsRow base e size v n xs) : Tail w base e size v n xs := by
  have h' := h
  obtain ⟨hl, hd | ⟨g, cap, cur, hv, hbg, hg, hn, hm, hsz, htk⟩⟩ := h
  · exact ⟨hl, .inl hd⟩
  · refine ⟨hl, .inr ⟨g, 0, cap, cur, hv, hbg, hg, hn, by omega, fun j u hj => ?_⟩⟩
    have := h'.cells (g := g) (by rw [hv]; rfl) j u hj
    rw [Addr.add_lit] at this
    exact this
theorem Tail.lt {w : World} {base e size n : Nat} {v : Value} {xs : List Value} (h : Tail w base e size v n xs) : ∀ k, v.ownBlock = some k → base ≤ k ∧ k < w.heap.size := by
  intro k hk
  obtain ⟨_, ⟨hv, _⟩ | ⟨g, off, cap, cur, hv, hbg, hg, _⟩⟩ := h
  · rw [hv] at hk; simp [Value.ownBlock] at hk
  · rw [hv] at hk
    simp only [Value.ownBlock, Option.some.injEq] at hk
    subst hk
    exact ⟨hbg, (Array.getElem?_eq_some_iff.1 hg).1⟩
theorem Tail.less {w : World} {base base2 e size n : Nat} {v : Value} {xs : List Value} (h : Tail w base e size v n xs) (hb : base2 ≤ base) : Tail w base2 e size v n xs := by
  obtain ⟨hl, hd | ⟨g, off, cap, cur, hv, hbg, h1⟩⟩ := h
  · exact ⟨hl, .inl hd⟩
  · exact ⟨hl, .inr ⟨g, off, cap, cur, hv, Nat.le_trans hb hbg, h1⟩⟩
theorem Tail.same {w w1 : World} {base e size n : Nat} {v : Value} {xs : List Value} (h : Tail w base e size v n xs) (hb : ∀ g, v.ownBlock = some g → w1.heap[g]? = w.heap[g]?) : Tail w1 base e size v n xs := by
  obtain ⟨hl, hd | ⟨g, off, cap, cur, hv, hbg, hg, hn, hsz, hc⟩⟩ := h
  · exact ⟨hl, .inl hd⟩
  · have he := hb g (by rw [hv]; rfl)
    exact ⟨hl, .inr ⟨g, off, cap, cur, hv, hbg, he.trans hg, hn, hsz, fun j u hj => (World.cell?_of_block (a := ⟨g, off + j, none⟩) he).trans (hc j u hj)⟩⟩
theorem block_setCells (b : Nat) : ∀ (vs : List Value) (o : Nat) (w : World) (cur : Array Value) (e : TypeId), w.heap[b]? = some (.cells cur e (0, 0)) → ∃ cur', (w.setCells b o vs).heap[b]? = some (.cells cur' e (0, 0)) ∧ cur'.size = cur.size
  | [], _, _, cur, _, h => ⟨cur, h, rfl⟩
  | v :: r, o, w, cur, e, h => by
    obtain ⟨cur', h1, h2⟩ := block_setCells b r (o + 1) (w.setCell ⟨b, o, none⟩ v) (cur.setIfInBounds o v) e (by unfold World.setCell; simp [Array.getElem?_modify, h])
    exact ⟨cur', h1, by simpa using h2⟩
theorem grown_setCells (b : Nat) : ∀ (vs : List Value) (o : Nat) (w : World), w.grownBy (w.setCells b o vs) (some b)
  | [], _, w => ⟨rfl, rfl, rfl, Nat.le_refl _, fun _ _ _ => rfl⟩
  | v :: r, o, w => by
    have h := grown_setCells b r (o + 1) (w.setCell ⟨b, o, none⟩ v)
    refine ⟨h.os, h.tape, h.output, ?_, fun k hk hne => ?_⟩
    · have h2 := h.size
      have h3 : (w.setCell ⟨b, o, none⟩ v).heap.size = w.heap.size := by simp
      show w.heap.size ≤ ((w.setCell ⟨b, o, none⟩ v).setCells b (o + 1) r).heap.size
      omega
    · exact (h.block k (by simpa using hk) hne).trans (Below.heap_setCell w ⟨b, o, none⟩ v k (fun e => hne (by rw [e])))
theorem run_append_tail {P : Program} (w : World) (base : Nat) (t ty e : TypeId) (i : TypeInfo) (z : Value) (size bytes : Nat) (ht : P.underlying t = some (.slice e)) (hi : P.info? e = some i) (hz : i.zero = some z)
    (hsize : i.size = size) (hby : i.bytes = bytes) (hzs : z.cells.size = size) (hsz : 0 < size)
    (v : Value) (n : Nat) (xs : List Value) (hown : Tail w base e size v n xs)
    (a : Addr) (m c : Nat) (news : List Value) (hl : news.length = m * size) (hnews : ∀ j u, news[j]? = some u → w.cell? (a.add j) = some u) (h1 : ∀ u ∈ news, u.oneCell' = true)
    (h63 : n + m ≤ maxLen) (hbytes : (n + m) * bytes ≤ 140737488355328) (hbase : base ≤ w.heap.size) :
    ∃ v' w', (Builtin.append_ #[t, t] ty #[v, .slice (some a) m c]).run P w = .ok v' w' ∧ Tail w' base e size v' (n + m) (xs ++ news) ∧ w.grownBy w' v.ownBlock ∧
      ∀ g, v'.ownBlock = some g → v.ownBlock = some g ∨ w.heap.size ≤ g := by
  have hown' := hown
  obtain ⟨hxl, ⟨rfl, rfl⟩ | ⟨g, off, cap, cur, rfl, hbg, hg, hnc, hcs, hcell⟩⟩ := hown
  · have hx : xs = [] := List.eq_nil_of_length_eq_zero (by simpa using hxl)
    subst hx
    obtain ⟨v', w', hr, ho, hgr, -⟩ := run_append_own (P := P) w w.heap.size t ty e i z size bytes ht hi hz hsize hby hzs hsz (.slice none 0 0) 0 [] (World.ownsRow_nil w _ e size) a m c news hl hnews h1 h63 hbytes (Nat.le_refl _)
    exact ⟨v', w', hr, (tail_of_own ho).less hbase, hgr, fun g hg => .inr (ho.lt g hg).1⟩
  · by_cases hroom : n + m ≤ cap
    · subst hsize
      have hfit : n * i.size + news.length ≤ cap * i.size := by rw [hl, ← Nat.add_mul]; exact Nat.mul_le_mul_right _ hroom
      have hcells : ∀ j, j < news.length → (w.cell? ⟨g, off + n * i.size + j, none⟩).isSome = true := fun j hj => by
        rw [cell_of_row w g _ _ _ _ hg, Array.getElem?_eq_getElem (by omega)]
        rfl
      have hr := run_append_room_cells (P := P) w t ty e i ht hi g off n cap a m c news hl hnews h1 hroom hcells (fun j _ => by simp [World.frozen?, hg])
      obtain ⟨cur', hg', hsz'⟩ := block_setCells g news (off + n * i.size) w cur e hg
      refine ⟨_, _, hr, ⟨by rw [List.length_append, hxl, hl, Nat.add_mul], .inr ⟨g, off, cap, cur', rfl, hbg, hg', hroom, by omega, fun j u hj => ?_⟩⟩, grown_setCells g news _ w, fun q hq => .inl (by simpa [Value.ownBlock] using hq)⟩
      rcases Nat.lt_or_ge j xs.length with hjx | hjx
      · rw [List.getElem?_append_left hjx] at hj
        rw [World.cell?_setCells_out g news _ w _ (fun _ _ => .inl (by simp; omega))]
        exact hcell j u hj
      · rw [List.getElem?_append_right hjx] at hj
        have hjn := (List.getElem?_eq_some_iff.1 hj)
        obtain ⟨hjl, hju⟩ := hjn
        have := World.cell?_setCells_in g news (off + n * i.size) w hcells (j - xs.length) hjl
        rw [show off + n * i.size + (j - xs.length) = off + j by omega, hju] at this
        exact this
    · obtain ⟨v', w', hr, ho, hgr⟩ := run_append_arg_grows (P := P) w t ty e i z size bytes ht hi hz hsize hby hzs hsz ⟨g, off, none⟩ n cap xs hxl (fun j u hj => by rw [Addr.add_lit]; exact hcell j u hj) a m c news hl hnews (by omega) h63 hbytes
      exact ⟨v', w', hr, (tail_of_own ho).less hbase, ⟨hgr.os, hgr.tape, hgr.output, hgr.size, fun k hk _ => hgr.block k hk (by simp)⟩, fun q hq => .inr (ho.lt q hq).1⟩
/-- As one step of a region that draws. -/
theorem step_append_tail {P : Program} {ops : Array Oper} {o : Oper} {a : Act} {w : World} {K : Act → World → Prop} {Q : Exit → Act → World → Prop} {E : Prop}
    (hgd : o.guard = none) (s x : Operand) (t : TypeId) (ho : o.op = .call { callee := .builtin .append, args := #[s, x], argTypes := #[t, t] })
    (base : Nat) (e : TypeId) (i : TypeInfo) (z : Value) (size bytes : Nat) (ht : P.underlying t = some (.slice e)) (hi : P.info? e = some i) (hz : i.zero = some z)
    (hsize : i.size = size) (hby : i.bytes = bytes) (hzs : z.cells.size = size) (hsz : 0 < size)
    (v : Value) (n : Nat) (xs : List Value) (hs : a.eval s = v) (hown : Tail w base e size v n xs)
    (ad : Addr) (m c : Nat) (news : List Value) (hx : a.eval x = .slice (some ad) m c) (hl : news.length = m * size) (hnews : ∀ j u, news[j]? = some u → w.cell? (ad.add j) = some u) (h1 : ∀ u ∈ news, u.oneCell' = true)
    (h63 : n + m ≤ maxLen) (hbytes : (n + m) * bytes ≤ 140737488355328) (hbase : base ≤ w.heap.size)
    (h : ∀ v' w', Tail w' base e size v' (n + m) (xs ++ news) → w.grownBy w' v.ownBlock → (∀ g, v'.ownBlock = some g → v.ownBlock = some g ∨ w.heap.size ≤ g) → K (a.put o.dst v') w') :
    if Region.wanted o (yielded ops a.tmps) = true then Oper.wp P o a w K Q else E := by
  have hw : Region.wanted o (yielded ops a.tmps) = true := by simp [Region.wanted, hgd]
  rw [if_pos hw]
  obtain ⟨v', w', hr, h2, h3, h4⟩ := run_append_tail (P := P) w base t o.type e i z size bytes ht hi hz hsize hby hzs hsz v n xs hown ad m c news hl hnews h1 h63 hbytes hbase
  unfold Oper.wp execOp
  simp only [ho, resolve, invoke, builtin, Sem.run_bind, Sem.run_pure, Result.andThen_ok, List.map_toArray, List.map_cons, List.map_nil, hs, hx, hr]
  exact h v' w' h2 h3 h4
/-- s = s[1:]. -/
theorem Tail.pop {w : World} {base e size n g off cap : Nat} {xs : List Value} (h : Tail w base e size (.slice (some ⟨g, off, none⟩) (n + 1) cap) (n + 1) xs) (ad : Addr) (ha : ad = ⟨g, off + size, none⟩ ∨ (cap = 1 ∧ ad = ⟨g, off, none⟩)) : Tail w base e size (.slice (some ad) n (cap - 1)) n (xs.drop size) := by
  obtain ⟨hxl, ⟨hv, _⟩ | ⟨g2, off2, cap2, cur, hv, hbg, hg, hnc, hcs, hcell⟩⟩ := h
  · cases hv
  · simp only [Value.slice.injEq, Option.some.injEq, Addr.mk.injEq, and_true, true_and] at hv
    obtain ⟨⟨rfl, rfl⟩, rfl⟩ := hv
    refine ⟨by rw [List.length_drop, hxl, Nat.add_mul]; omega, .inr ?_⟩
    have hcap : (cap - 1) * size + size = cap * size := by
      have : cap = (cap - 1) + 1 := by omega
      rw [this]
      simp [Nat.add_mul]
    rcases ha with rfl | ⟨rfl, rfl⟩
    · refine ⟨g, off + size, cap - 1, cur, rfl, hbg, hg, by omega, by omega, fun j u hj => ?_⟩
      rw [List.getElem?_drop] at hj
      rw [Nat.add_assoc]
      exact hcell _ u hj
    · obtain rfl : n = 0 := by omega
      refine ⟨g, off, 0, cur, rfl, hbg, hg, Nat.le_refl _, by simp at hcs ⊢; omega, fun j u hj => ?_⟩
      rw [List.getElem?_drop, List.getElem?_eq_none (by omega)] at hj
      cases hj
end Go.Proofs.YthggomgmaecinaeGreatDoor

namespace Go.Proofs.YthggomgmaecinaeGreatDoor
open Go.RowKit

/-- The place of a row's slice in the block: those that are held, those that wait, what is told, who was aborted, what stands behind. -/
def posR (i : Nat) : Nat := match i with | 0 => 1 | 1 => 2 | 2 => 45 | 3 => 46 | d + 4 => 31 + d
def rPart (way : Int) (W A : Int → Bool) (O : Int → Op3) (rv : Nat → Value) (k : Nat) : Value :=
  if k = 0 then .int .i64 way else if k = 1 then rv 0 else if k = 2 then rv 1 else if k < 10 then .bool (W ((k - 3 : Nat) : Int))
  else if k < 31 then (if (k - 10) % 3 = 0 then .int .i64 (O (((k - 10) / 3 : Nat) : Int)).1 else if (k - 10) % 3 = 1 then .int .i64 (O (((k - 10) / 3 : Nat) : Int)).2.1 else .int .i64 (O (((k - 10) / 3 : Nat) : Int)).2.2)
  else if k < 38 then rv (k - 31 + 4) else if k < 45 then .bool (A ((k - 38 : Nat) : Int)) else if k = 45 then rv 2 else rv 3
def cells47 (way : Int) (W A : Int → Bool) (O : Int → Op3) (rv : Nat → Value) : Array Value := ((List.range 47).map (rPart way W A O rv)).toArray
theorem cells47_size (way : Int) (W A : Int → Bool) (O : Int → Op3) (rv : Nat → Value) : (cells47 way W A O rv).size = 47 := by simp [cells47]
theorem cells47_at (way : Int) (W A : Int → Bool) (O : Int → Op3) (rv : Nat → Value) (k : Nat) (h : k < 47) : (cells47 way W A O rv)[k]? = some (rPart way W A O rv k) := by simp [cells47, h]
theorem cells47_ext {way : Int} {W A W' A' : Int → Bool} {O O' : Int → Op3} {rv rv' : Nat → Value} {u : Value} {p : Nat} (hp : p < 47) (hh : rPart way W' A' O' rv' p = u) (he : ∀ k, k < 47 → k ≠ p → rPart way W' A' O' rv' k = rPart way W A O rv k) : (cells47 way W A O rv).setIfInBounds p u = cells47 way W' A' O' rv' := by
  refine Array.ext_getElem? fun j => ?_
  by_cases hj : j < 47
  · rw [cells47_at _ _ _ _ _ j hj, Array.getElem?_setIfInBounds, cells47_size, cells47_at _ _ _ _ _ j hj]
    by_cases e : p = j
    · subst e; rw [if_pos rfl, if_pos hp, hh]
    · rw [if_neg e, he j hj (fun h => e h.symm)]
  · rw [Array.getElem?_eq_none (by simp [cells47_size]; omega), Array.getElem?_eq_none (by simp [cells47_size]; omega)]
def setV (rv : Nat → Value) (i : Nat) (v : Value) : Nat → Value := fun j => if j = i then v else rv j
theorem pos_lt {i : Nat} (h : i < 11) : posR i < 47 := by
  unfold posR
  split <;> omega
theorem rpart_row (way : Int) (W A : Int → Bool) (O : Int → Op3) (rv : Nat → Value) {i : Nat} (h : i < 11) : rPart way W A O rv (posR i) = rv i := by
  rcases (show i = 0 ∨ i = 1 ∨ i = 2 ∨ i = 3 ∨ i = 4 ∨ i = 5 ∨ i = 6 ∨ i = 7 ∨ i = 8 ∨ i = 9 ∨ i = 10 by omega) with rfl | rfl | rfl | rfl | rfl | rfl | rfl | rfl | rfl | rfl | rfl <;> rfl
theorem cells47_row (way : Int) (W A : Int → Bool) (O : Int → Op3) (rv : Nat → Value) {i : Nat} (h : i < 11) (v : Value) : (cells47 way W A O rv).setIfInBounds (posR i) v = cells47 way W A O (setV rv i v) := by
  refine cells47_ext (pos_lt h) (by rw [rpart_row _ _ _ _ _ h]; simp [setV]) fun k hk hne => ?_
  unfold rPart setV
  rcases (show i = 0 ∨ i = 1 ∨ i = 2 ∨ i = 3 ∨ 4 ≤ i by omega) with rfl | rfl | rfl | rfl | hi
  · simp [posR] at hne
    simp [hne]
  · simp [posR] at hne
    simp [hne]
  · simp [posR] at hne
    simp [hne]
  · simp [posR] at hne
    by_cases h1 : k < 31
    · simp [h1]
    · by_cases h2 : k < 38
      · simp [h1, h2, show ¬ k - 31 + 4 = 3 by omega]
      · by_cases h3 : k < 45
        · simp [h1, h2, h3]
        · rw [show k = 45 by omega]
          rfl
  · obtain ⟨d, rfl⟩ : ∃ d, i = d + 4 := ⟨i - 4, by omega⟩
    simp [posR] at hne
    by_cases h1 : k < 31
    · simp [h1]
    · by_cases h2 : k < 38
      · simp [h1, h2, show ¬ k - 31 = d by omega]
      · simp [h1, h2]
theorem cells47_waits (way : Int) (W A : Int → Bool) (O : Int → Op3) (rv : Nat → Value) {d : Nat} (h : d < 7) (x : Bool) : (cells47 way W A O rv).setIfInBounds (3 + d) (.bool x) = cells47 way (setF W d x) A O rv := by
  refine cells47_ext (by omega) ?_ fun k hk hne => ?_
  · unfold rPart setF
    rw [if_neg (by omega), if_neg (by omega), if_neg (by omega), if_pos (by omega), if_pos (by omega)]
  · unfold rPart setF
    by_cases h1 : k < 10
    · by_cases h2 : k < 3
      · rcases (show k = 0 ∨ k = 1 ∨ k = 2 by omega) with rfl | rfl | rfl <;> rfl
      · simp only [h1, if_true, show ¬ k = 0 by omega, show ¬ k = 1 by omega, show ¬ k = 2 by omega, if_false]
        rw [if_neg (by omega)]
    · simp [h1]
theorem cells47_out (way : Int) (W A : Int → Bool) (O : Int → Op3) (rv : Nat → Value) {d : Nat} (h : d < 7) (x : Bool) : (cells47 way W A O rv).setIfInBounds (38 + d) (.bool x) = cells47 way W (setF A d x) O rv := by
  refine cells47_ext (by omega) ?_ fun k hk hne => ?_
  · unfold rPart setF
    rw [if_neg (by omega), if_neg (by omega), if_neg (by omega), if_neg (by omega), if_neg (by omega), if_neg (by omega), if_pos (by omega), if_pos (by omega)]
  · unfold rPart setF
    by_cases h1 : k < 38
    · simp [h1]
    · by_cases h2 : k < 45
      · simp only [h1, h2, if_true, show ¬ k = 0 by omega, show ¬ k = 1 by omega, show ¬ k = 2 by omega, show ¬ k < 10 by omega, show ¬ k < 31 by omega, if_false]
        rw [if_neg (by omega)]
      · simp [h2]
theorem cells47_op (way : Int) (W A : Int → Bool) (O : Int → Op3) (rv : Nat → Value) {d : Nat} (h : d < 7) (x : Op3) : (((cells47 way W A O rv).setIfInBounds (10 + d * 3) (.int .i64 x.1)).setIfInBounds (10 + d * 3 + 1) (.int .i64 x.2.1)).setIfInBounds (10 + d * 3 + 2) (.int .i64 x.2.2) = cells47 way W A (setF O d x) rv := by
  refine Array.ext_getElem? fun j => ?_
  by_cases hj : j < 47
  · rw [cells47_at _ _ _ _ _ j hj]
    simp only [Array.getElem?_setIfInBounds, Array.size_setIfInBounds, cells47_size]
    rw [cells47_at _ _ _ _ _ j hj]
    by_cases h1 : 10 ≤ j ∧ j < 31
    · have hq : rPart way W A (setF O d x) rv j = (if (j - 10) % 3 = 0 then .int .i64 (setF O d x (((j - 10) / 3 : Nat) : Int)).1 else if (j - 10) % 3 = 1 then .int .i64 (setF O d x (((j - 10) / 3 : Nat) : Int)).2.1 else .int .i64 (setF O d x (((j - 10) / 3 : Nat) : Int)).2.2) := by
        unfold rPart
        rw [if_neg (by omega), if_neg (by omega), if_neg (by omega), if_neg (by omega), if_pos (by omega)]
      have hq2 : rPart way W A O rv j = (if (j - 10) % 3 = 0 then .int .i64 (O (((j - 10) / 3 : Nat) : Int)).1 else if (j - 10) % 3 = 1 then .int .i64 (O (((j - 10) / 3 : Nat) : Int)).2.1 else .int .i64 (O (((j - 10) / 3 : Nat) : Int)).2.2) := by
        unfold rPart
        rw [if_neg (by omega), if_neg (by omega), if_neg (by omega), if_neg (by omega), if_pos (by omega)]
      rw [hq, hq2]
      by_cases h2 : (j - 10) / 3 = d
      · rw [h2, setF_same]
        rcases (show j = 10 + d * 3 ∨ j = 10 + d * 3 + 1 ∨ j = 10 + d * 3 + 2 by omega) with e | e | e
        · rw [if_neg (by omega), if_neg (by omega), if_pos e.symm, if_pos (by omega), if_pos (by omega)]
        · rw [if_neg (by omega), if_pos e.symm, if_pos (by omega), if_neg (by omega), if_pos (by omega)]
        · rw [if_pos e.symm, if_pos (by omega), if_neg (by omega), if_neg (by omega)]
      · rw [setF_other _ _ (show (((j - 10) / 3 : Nat) : Int) ≠ (d : Int) by omega), if_neg (by omega), if_neg (by omega), if_neg (by omega)]
    · rw [if_neg (by omega), if_neg (by omega), if_neg (by omega)]
      unfold rPart
      by_cases h2 : j < 10
      · simp [h2]
      · simp [h2, show ¬ j < 31 by omega]
  · rw [Array.getElem?_eq_none (by simp [cells47_size]; omega), Array.getElem?_eq_none (by simp [cells47_size]; omega)]
/-- What a row holds. -/
def rowOk (w : World) (R : Nat) (r : Runr) (i : Nat) (v : Value) : Prop :=
  match i with
  | 0 => w.ownsRow (R + 1) 67 3 v r.tab.1.length (flat r.tab.1)
  | 1 => w.ownsRow (R + 1) 67 3 v r.tab.2.length (flat r.tab.2)
  | 2 => w.ownsRow (R + 1) 43 3 v r.told.length (flat r.told)
  | 3 => w.ownsRow (R + 1) 3 1 v r.vict.length (r.vict.map (Value.int .i64))
  | d + 4 => Tail w (R + 1) 43 3 v (r.behind (d : Int)).length (flat (r.behind (d : Int)))
theorem rowOk.turn {w w1 : World} {F : Nat → Prop} {R : Nat} {r : Runr} {i : Nat} {v : Value} (h : rowOk w R r i v) (ht : Turns F w w1) (hF : ∀ g, v.ownBlock = some g → ¬ F g) : rowOk w1 R r i v := by
  unfold rowOk at h ⊢
  split at h
  · exact ht.own h hF
  · exact ht.own h hF
  · exact ht.own h hF
  · exact ht.own h hF
  · exact h.same fun g hg => ht.block g (h.lt g hg).2 (hF g hg)
theorem rowOk.lt {w : World} {R : Nat} {r : Runr} {i : Nat} {v : Value} (h : rowOk w R r i v) : ∀ g, v.ownBlock = some g → R + 1 ≤ g ∧ g < w.heap.size := by
  unfold rowOk at h
  split at h
  · exact h.lt
  · exact h.lt
  · exact h.lt
  · exact h.lt
  · exact h.lt
/-- A runner in memory. -/
structure RunAt (w : World) (R : Nat) (way : Int) (r : Runr) (rv : Nat → Value) : Prop where
  blk : w.heap[R]? = some (.cells (cells47 way r.waits r.out r.op rv) 47 (0, 0))
  rows : ∀ i, i < 11 → rowOk w R r i (rv i)
  apart : ∀ i j g, i < 11 → j < 11 → i ≠ j → (rv i).ownBlock = some g → (rv j).ownBlock = some g → False
/-- Its blocks. -/
def footR (R : Nat) (rv : Nat → Value) (k : Nat) : Prop := k = R ∨ ∃ i, i < 11 ∧ (rv i).ownBlock = some k
theorem RunAt.lt {w : World} {R : Nat} {way : Int} {r : Runr} {rv : Nat → Value} (h : RunAt w R way r rv) : R < w.heap.size := (Array.getElem?_eq_some_iff.1 h.blk).1
theorem RunAt.cell {w : World} {R : Nat} {way : Int} {r : Runr} {rv : Nat → Value} (h : RunAt w R way r rv) {k : Nat} (hk : k < 47) : w.cell? ⟨R, k, none⟩ = some (rPart way r.waits r.out r.op rv k) := by rw [cell_of_row w R _ _ _ _ h.blk, cells47_at _ _ _ _ _ k hk]
theorem RunAt.thaw {w : World} {R : Nat} {way : Int} {r : Runr} {rv : Nat → Value} (h : RunAt w R way r rv) (k : Nat) : w.frozen? ⟨R, k, none⟩ = false := by simp [World.frozen?, h.blk]
theorem RunAt.row {w : World} {R : Nat} {way : Int} {r : Runr} {rv : Nat → Value} (h : RunAt w R way r rv) {i : Nat} (hi : i < 11) : w.cell? ⟨R, posR i, none⟩ = some (rv i) := by rw [h.cell (pos_lt hi), rpart_row _ _ _ _ _ hi]
theorem RunAt.foot_lt {w : World} {R : Nat} {way : Int} {r : Runr} {rv : Nat → Value} (h : RunAt w R way r rv) {k : Nat} (hk : footR R rv k) : R ≤ k ∧ k < w.heap.size := by
  have := h.lt
  rcases hk with rfl | ⟨i, hi, hk⟩
  · omega
  · have := (h.rows i hi).lt k hk; omega
theorem RunAt.turn {w w1 : World} {F : Nat → Prop} {R : Nat} {way : Int} {r : Runr} {rv : Nat → Value} (h : RunAt w R way r rv) (ht : Turns F w w1) (hF : ∀ k, footR R rv k → ¬ F k) : RunAt w1 R way r rv :=
  ⟨(ht.block R h.lt (hF R (.inl rfl))).trans h.blk, fun i hi => (h.rows i hi).turn ht fun g hg => hF g (.inr ⟨i, hi, hg⟩), h.apart⟩
theorem RunAt.below {w w1 : World} {R : Nat} {way : Int} {r : Runr} {rv : Nat → Value} (h : RunAt w R way r rv) (hb : Below w.heap.size w w1) : RunAt w1 R way r rv := h.turn (Turns.of_below (F := fun _ => False) hb) fun _ _ hf => hf
/-- One row is another one: where it lay, or in new memory. -/
theorem RunAt.setRow {w w1 : World} {R : Nat} {way : Int} {r r1 : Runr} {rv : Nat → Value} {i : Nat} {v : Value} (h : RunAt w R way r rv) (hi : i < 11) (ht : Turns (fun k => (rv i).ownBlock = some k) w w1)
    (hv : rowOk w1 R r1 i v) (hap : ∀ g, v.ownBlock = some g → (rv i).ownBlock = some g ∨ w.heap.size ≤ g) (hr : ∀ j, j < 11 → j ≠ i → ∀ W u, rowOk W R r j u → rowOk W R r1 j u) (he : r1.waits = r.waits ∧ r1.out = r.out ∧ r1.op = r.op) :
    RunAt (w1.setCell ⟨R, posR i, none⟩ v) R way r1 (setV rv i v) ∧ Turns (footR R rv) w (w1.setCell ⟨R, posR i, none⟩ v) ∧ ∀ k, footR R (setV rv i v) k → footR R rv k ∨ w.heap.size ≤ k := by
  have hl := h.lt
  have hR : w1.heap[R]? = some (.cells (cells47 way r.waits r.out r.op rv) 47 (0, 0)) := (ht.block R hl (fun e => by have := ((h.rows i hi).lt R e).1; omega)).trans h.blk
  have hset : Turns (fun k => k = R) w1 (w1.setCell ⟨R, posR i, none⟩ v) := by
    refine Turns.setCell (Turns.refl _ w1) ?_ _
    exact .inl rfl
  refine ⟨⟨?_, fun j hj => ?_, fun a b g ha hb hab h1 h2 => ?_⟩, (ht.mono fun k _ e => .inr ⟨i, hi, e⟩).setCell (.inl (.inl rfl)) _, fun k hk => ?_⟩
  · rw [block_set hR, cells47_row _ _ _ _ _ hi, he.1, he.2.1, he.2.2]
  · by_cases e : j = i
    · subst e
      have : setV rv j v j = v := if_pos rfl
      rw [this]
      exact hv.turn hset fun g hg e => by have := (hv.lt g hg).1; omega
    · have : setV rv i v j = rv j := if_neg e
      rw [this]
      have h1 := hr j hj e w1 _ ((h.rows j hj).turn ht fun g hg e2 => h.apart j i g hj hi e hg e2)
      exact h1.turn hset fun g hg e2 => by have := (h1.lt g hg).1; omega
  · unfold setV at h1 h2
    split at h1
    · rename_i ea
      rw [if_neg (fun e => hab (ea.trans e.symm))] at h2
      rcases hap g h1 with h3 | h3
      · exact h.apart i b g hi hb (fun e => hab (ea.trans e)) h3 h2
      · have := ((h.rows b hb).lt g h2).2; omega
    · rename_i ea
      split at h2
      · rcases hap g h2 with h3 | h3
        · exact h.apart a i g ha hi ea h1 h3
        · have := ((h.rows a ha).lt g h1).2; omega
      · exact h.apart a b g ha hb hab h1 h2
  · rcases hk with hk | ⟨j, hj, hk⟩
    · exact .inl (.inl hk)
    · unfold setV at hk
      split at hk
      · rcases hap k hk with h3 | h3
        · exact .inl (.inr ⟨i, hi, h3⟩)
        · exact .inr h3
      · exact .inl (.inr ⟨j, hj, hk⟩)
section
variable {w w1 : World} {R : Nat} {way : Int} {r : Runr} {rv : Nat → Value}
theorem rowOk.of_same {r1 : Runr} (h1 : r1.tab = r.tab) (h2 : r1.told = r.told) (h3 : r1.vict = r.vict) (h4 : r1.behind = r.behind) {W : World} {i : Nat} {u : Value} (h : rowOk W R r i u) : rowOk W R r1 i u := by
  unfold rowOk at h ⊢
  rw [h1, h2, h3, h4]
  exact h
theorem RunAt.mark {r1 : Runr} {k : Nat} {u : Value} (h : RunAt w R way r rv) (hc : (cells47 way r.waits r.out r.op rv).setIfInBounds k u = cells47 way r1.waits r1.out r1.op rv) (h1 : r1.tab = r.tab) (h2 : r1.told = r.told) (h3 : r1.vict = r.vict) (h4 : r1.behind = r.behind) : RunAt (w.setCell ⟨R, k, none⟩ u) R way r1 rv ∧ Turns (footR R rv) w (w.setCell ⟨R, k, none⟩ u) := by
  have hset : Turns (fun j => j = R) w (w.setCell ⟨R, k, none⟩ u) := by
    refine Turns.setCell (Turns.refl _ w) ?_ _
    exact .inl rfl
  refine ⟨⟨by rw [block_set h.blk, hc], fun i hi => ?_, h.apart⟩, hset.mono fun j _ e => .inl e⟩
  exact rowOk.of_same h1 h2 h3 h4 ((h.rows i hi).turn hset fun g hg e => by have := ((h.rows i hi).lt g hg).1; omega)
/-- Who waits is set. -/
theorem RunAt.setWaits (h : RunAt w R way r rv) {d : Nat} (hd : d < 7) (x : Bool) : RunAt (w.setCell ⟨R, 3 + d, none⟩ (.bool x)) R way { r with waits := setF r.waits d x } rv ∧ Turns (footR R rv) w (w.setCell ⟨R, 3 + d, none⟩ (.bool x)) :=
  h.mark (r1 := { r with waits := setF r.waits d x }) (cells47_waits _ _ _ _ _ hd x) rfl rfl rfl rfl
/-- Who is aborted is set. -/
theorem RunAt.setOut (h : RunAt w R way r rv) {d : Nat} (hd : d < 7) (x : Bool) : RunAt (w.setCell ⟨R, 38 + d, none⟩ (.bool x)) R way { r with out := setF r.out d x } rv ∧ Turns (footR R rv) w (w.setCell ⟨R, 38 + d, none⟩ (.bool x)) :=
  h.mark (r1 := { r with out := setF r.out d x }) (cells47_out _ _ _ _ _ hd x) rfl rfl rfl rfl
/-- The op for which one waits is set. -/
theorem RunAt.setOp (h : RunAt w R way r rv) {d : Nat} (hd : d < 7) (x : Op3) : RunAt (((w.setCell ⟨R, 10 + d * 3, none⟩ (.int .i64 x.1)).setCell ⟨R, 10 + d * 3 + 1, none⟩ (.int .i64 x.2.1)).setCell ⟨R, 10 + d * 3 + 2, none⟩ (.int .i64 x.2.2)) R way { r with op := setF r.op d x } rv ∧ Turns (footR R rv) w (((w.setCell ⟨R, 10 + d * 3, none⟩ (.int .i64 x.1)).setCell ⟨R, 10 + d * 3 + 1, none⟩ (.int .i64 x.2.1)).setCell ⟨R, 10 + d * 3 + 2, none⟩ (.int .i64 x.2.2)) := by
  have hset : Turns (fun j => j = R) w (((w.setCell ⟨R, 10 + d * 3, none⟩ (.int .i64 x.1)).setCell ⟨R, 10 + d * 3 + 1, none⟩ (.int .i64 x.2.1)).setCell ⟨R, 10 + d * 3 + 2, none⟩ (.int .i64 x.2.2)) := by
    refine Turns.setCell (Turns.setCell (Turns.setCell (Turns.refl _ w) ?_ _) ?_ _) ?_ _ <;> exact .inl rfl
  refine ⟨⟨?_, fun i hi => ?_, h.apart⟩, hset.mono fun j _ e => .inl e⟩
  · rw [block_set (block_set (block_set h.blk)), cells47_op _ _ _ _ _ hd x]
  · exact rowOk.of_same (r := r) (r1 := { r with op := setF r.op d x }) rfl rfl rfl rfl ((h.rows i hi).turn hset fun g hg e => by have := ((h.rows i hi).lt g hg).1; omega)
/-- Its table. -/
theorem RunAt.table (h : RunAt w R way r rv) : TabAt w 47 R 1 (cells47 way r.waits r.out r.op rv) (rv 0) (rv 1) r.tab :=
  ⟨h.blk, by rw [cells47_at _ _ _ _ _ 1 (by omega)]; rfl, by rw [cells47_at _ _ _ _ _ 2 (by omega)]; rfl, h.rows 0 (by omega), h.rows 1 (by omega), fun g h1 h2 => h.apart 0 1 g (by omega) (by omega) (by decide) h1 h2⟩
theorem put2_run (W A : Int → Bool) (O : Int → Op3) (hv wv : Value) : put2 (cells47 way W A O rv) 1 hv wv = cells47 way W A O (setV (setV rv 0 hv) 1 wv) := by
  have h1 := cells47_row way W A O rv (i := 0) (by omega) hv
  have h2 := cells47_row way W A O (setV rv 0 hv) (i := 1) (by omega) wv
  unfold put2
  show ((cells47 way W A O rv).setIfInBounds (posR 0) hv).setIfInBounds (posR 1) wv = _
  rw [h1, h2]
theorem foot_run {k : Nat} (h : foot R (rv 0) (rv 1) k) : footR R rv k := by
  rcases h with h | h | h
  · exact .inl h
  · exact .inr ⟨0, by omega, h⟩
  · exact .inr ⟨1, by omega, h⟩
/-- A call on its table. -/
theorem RunAt.setTab {s1 : Tab2} (h : RunAt w R way r rv) (hs : TabStep w w1 47 R 1 (cells47 way r.waits r.out r.op rv) (rv 0) (rv 1) s1) : ∃ rv1, RunAt w1 R way { r with tab := s1 } rv1 ∧ Turns (footR R rv) w w1 ∧ (∀ k, footR R rv1 k → footR R rv k ∨ w.heap.size ≤ k) := by
  obtain ⟨hv, wv, ht, htu, hf⟩ := hs
  rw [put2_run] at ht
  have hold : ∀ j, j < 11 → 2 ≤ j → setV (setV rv 0 hv) 1 wv j = rv j := fun j _ h2 => by
    unfold setV
    rw [if_neg (by omega), if_neg (by omega)]
  have hn : ∀ j g, 2 ≤ j → j < 11 → (rv j).ownBlock = some g → ¬ foot R (rv 0) (rv 1) g := fun j g h2 h11 hg hft => by
    rcases hft with h3 | h3 | h3
    · have := ((h.rows j h11).lt g hg).1; omega
    · exact h.apart j 0 g h11 (by omega) (by omega) hg h3
    · exact h.apart j 1 g h11 (by omega) (by omega) hg h3
  have hn2 : ∀ j g, 2 ≤ j → j < 11 → (rv j).ownBlock = some g → ¬ foot R hv wv g := fun j g h2 h11 hg hft => by
    rcases hf g hft with h3 | h3
    · exact hn j g h2 h11 hg h3
    · have := ((h.rows j h11).lt g hg).2; omega
  have hone : ∀ j, j < 2 → ∀ g, (setV (setV rv 0 hv) 1 wv j).ownBlock = some g → foot R hv wv g := fun j hj g hg => by
    rcases (show j = 0 ∨ j = 1 by omega) with rfl | rfl
    · exact .inr (.inl hg)
    · exact .inr (.inr hg)
  refine ⟨setV (setV rv 0 hv) 1 wv, ⟨ht.blk, fun i hi => ?_, fun a b g ha hb hab h1 h2 => ?_⟩, htu.mono fun k _ hk => foot_run hk, fun k hk => ?_⟩
  · rcases (show i = 0 ∨ i = 1 ∨ 2 ≤ i by omega) with rfl | rfl | h2
    · exact ht.oh
    · exact ht.ow
    · rw [hold i hi h2]
      have h3 := (h.rows i hi).turn htu fun g hg => hn i g h2 hi hg
      rcases (show i = 2 ∨ i = 3 ∨ 4 ≤ i by omega) with rfl | rfl | h4
      · exact h3
      · exact h3
      · obtain ⟨j, rfl⟩ : ∃ j, i = j + 4 := ⟨i - 4, by omega⟩
        exact h3
  · rcases Nat.lt_or_ge a 2 with a2 | a2
    · rcases Nat.lt_or_ge b 2 with b2 | b2
      · rcases (show (a = 0 ∧ b = 1) ∨ (a = 1 ∧ b = 0) by omega) with ⟨rfl, rfl⟩ | ⟨rfl, rfl⟩
        · exact ht.apart g h1 h2
        · exact ht.apart g h2 h1
      · rw [hold b hb b2] at h2
        exact hn2 b g b2 hb h2 (hone a a2 g h1)
    · rw [hold a ha a2] at h1
      rcases Nat.lt_or_ge b 2 with b2 | b2
      · exact hn2 a g a2 ha h1 (hone b b2 g h2)
      · rw [hold b hb b2] at h2
        exact h.apart a b g ha hb hab h1 h2
  · rcases hk with hk | ⟨i, hi, hk⟩
    · exact .inl (.inl hk)
    · rcases Nat.lt_or_ge i 2 with i2 | i2
      · rcases hf k (hone i i2 k hk) with h3 | h3
        · exact .inl (foot_run h3)
        · exact .inr h3
      · rw [hold i hi i2] at hk
        exact .inl (.inr ⟨i, hi, hk⟩)
end
end Go.Proofs.YthggomgmaecinaeGreatDoor
