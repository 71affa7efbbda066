/-
  PROVED HERE: how a table of locks (two lists in rows of its own) lies in memory, and what of it stands when only some blocks have turned.
  Conditions: none.
  (Of these, what the claim wants: the rest was left out.)
  PROVED HERE: plain facts on who waits for whom, as edges; two rows of unlike types lie apart.
  Conditions: none.
-/
import Derived.Test.YtmjjiehnjghndaaGreatMgam
import Derived.Test.YtmjjiehnjghndaaGreatMgab
import Derived.Test.YtmjjiehnjghndaaGreatMgad
import Derived.Test.YtmjjiehnjghndaaGreatMgan
import Derived.OwnWalk
import Derived.Laws.Rows
import Derived.Test.YtmjjiehnjghndaaGreatMgap
namespace Go.Proofs.YtmjjiehnjghndaaGreat
open Go.RowKit

/-- Of the blocks that there were, only those of F have turned. -/
structure Turns (F : Nat → Prop) (w w' : World) : Prop where
  os : w'.os = w.os
  tape : w'.tape = w.tape
  output : w'.output = w.output
  size : w.heap.size ≤ w'.heap.size
  block : ∀ k, k < w.heap.size → ¬ F k → w'.heap[k]? = w.heap[k]?
theorem Turns.refl (F : Nat → Prop) (w : World) : Turns F w w := ⟨rfl, rfl, rfl, Nat.le_refl _, fun _ _ _ => rfl⟩
theorem Turns.trans {F G : Nat → Prop} {w w1 w2 : World} (h : Turns F w w1) (k : Turns G w1 w2) (hG : ∀ j, j < w.heap.size → G j → F j) : Turns F w w2 :=
  ⟨k.os.trans h.os, k.tape.trans h.tape, k.output.trans h.output, Nat.le_trans h.size k.size, fun j h1 h2 => (k.block j (Nat.lt_of_lt_of_le h1 h.size) (fun hg => h2 (hG j h1 hg))).trans (h.block j h1 h2)⟩
theorem Turns.of_below {F : Nat → Prop} {w w' : World} (h : Below w.heap.size w w') : Turns F w w' := ⟨h.os, h.tape, h.output, h.size, fun k hk _ => h.block k hk⟩
theorem Turns.below {F : Nat → Prop} {B : Nat} {w w' : World} (h : Turns F w w') (hB : B ≤ w.heap.size) (hF : ∀ k, k < B → ¬ F k) : Below B w w' := ⟨h.os, h.tape, h.output, h.size, fun k hk => h.block k (Nat.lt_of_lt_of_le hk hB) (hF k hk)⟩
theorem Turns.then_below {F : Nat → Prop} {w w1 w2 : World} (h : Turns F w w1) (k : Below w1.heap.size w1 w2) : Turns F w w2 := h.trans (Turns.of_below (F := fun _ => False) k) fun _ _ hf => hf.elim
theorem Turns.drew {F : Nat → Prop} {w w1 : World} (h : Turns F w w1) : Turns F w w1.drew := ⟨h.os, h.tape, h.output, h.size, h.block⟩
theorem Turns.alloc {F : Nat → Prop} {w w1 : World} (h : Turns F w w1) (o : Obj) : Turns F w (w1.alloc o) := h.then_below ((Below.refl _ w1).alloc (Nat.le_refl _) o)
theorem Turns.setCell {F : Nat → Prop} {w w1 : World} (h : Turns F w w1) {p : Addr} (hp : F p.block ∨ w.heap.size ≤ p.block) (u : Value) : Turns F w (w1.setCell p u) := by
  refine ⟨h.os, h.tape, h.output, by simpa using h.size, fun k h1 h2 => ?_⟩
  have hne : k ≠ p.block := by
    intro e
    rcases hp with hp | hp
    · exact h2 (e ▸ hp)
    · omega
  exact (Below.heap_setCell w1 p u k hne).trans (h.block k h1 h2)
theorem Turns.grown {F : Nat → Prop} {w w1 w2 : World} {row : Option Nat} (h : Turns F w w1) (hg : w1.grownBy w2 row) (hr : ∀ k, row = some k → F k ∨ w.heap.size ≤ k) : Turns F w w2 :=
  ⟨hg.os.trans h.os, hg.tape.trans h.tape, hg.output.trans h.output, Nat.le_trans h.size hg.size, fun k h1 h2 => (hg.block k (Nat.lt_of_lt_of_le h1 h.size) (fun e => by
    rcases hr k e.symm with hp | hp
    · exact h2 hp
    · omega)).trans (h.block k h1 h2)⟩
theorem Turns.mono {F G : Nat → Prop} {w w1 : World} (h : Turns F w w1) (hF : ∀ k, k < w.heap.size → F k → G k) : Turns G w w1 := ⟨h.os, h.tape, h.output, h.size, fun k h1 h2 => h.block k h1 fun hf => h2 (hF k h1 hf)⟩
theorem Turns.cell {F : Nat → Prop} {w w1 : World} (h : Turns F w w1) {p : Addr} (hp : p.block < w.heap.size) (hF : ¬ F p.block) : w1.cell? p = w.cell? p := World.cell?_of_block (w := w) (h.block p.block hp hF)
/-- What is owned stays owned where its own block does not turn. -/
theorem Turns.own {F : Nat → Prop} {w w1 : World} {base e size n : Nat} {v : Value} {xs : List Value} (h : Turns F w w1) (ho : w.ownsRow base e size v n xs) (hF : ∀ g, v.ownBlock = some g → ¬ F g) : w1.ownsRow base e size v n xs := by
  have h' := ho
  obtain ⟨hl, hd | ⟨g, cap, cur, hv, hbg, hg, hn, hm, hsz, htk⟩⟩ := ho
  · exact ⟨hl, .inl hd⟩
  · refine ⟨hl, .inr ⟨g, cap, cur, hv, hbg, ?_, hn, hm, hsz, htk⟩⟩
    rw [h.block g (h'.lt g (by rw [hv]; rfl)).2 (hF g (by rw [hv]; rfl))]; exact hg
theorem own_less {w : World} {base base2 e size n : Nat} {v : Value} {xs : List Value} (h : w.ownsRow base e size v n xs) (hb : base2 ≤ base) : w.ownsRow base2 e size v n xs := by
  obtain ⟨hl, hd | ⟨g, cap, cur, hv, hbg, hg, hn, hm, hsz, htk⟩⟩ := h
  · exact ⟨hl, .inl hd⟩
  · exact ⟨hl, .inr ⟨g, cap, cur, hv, Nat.le_trans hb hbg, hg, hn, hm, hsz, htk⟩⟩
theorem isOps_row {w : World} {base e n : Nat} {v : Value} {l : List Op3} (h : w.ownsRow base e 3 v n (flat l)) (hl : l.length = n) : IsOps w v l := by
  have h' := h
  obtain ⟨hx, ⟨hv, hd⟩ | ⟨g, cap, cur, hv, hb, hg, hn, hm, hsz, htk⟩⟩ := h'
  · have : l = [] := List.length_eq_zero_iff.1 (by omega)
    subst this
    rw [hv]
    exact ⟨none, 0, 0, 0, rfl, fun h => absurd h (by simp), fun _ => ⟨rfl, rfl⟩, .inr rfl, fun i hi => by simp at hi⟩
  · refine ⟨some ⟨g, 0, none⟩, g, 0, cap, by rw [hl]; exact hv, fun _ => rfl, fun h => (by simp at h), .inl (h.lt g (by rw [hv]; rfl)).2, opsAt_of fun j u hj => ?_⟩
    have := h.cells (g := g) (by rw [hv]; rfl) j u hj
    rw [Addr.add_lit] at this
    exact this
theorem own_slice3 {w : World} {base e size n : Nat} {v : Value} {xs : List Value} (h : w.ownsRow base e size v n xs) : ∃ ad c, v = .slice ad n c ∧ (0 < n → ∃ g, ad = some ⟨g, 0, none⟩ ∧ base ≤ g ∧ g < w.heap.size ∧ ∀ k, w.frozen? ⟨g, k, none⟩ = false) := by
  have h' := h
  obtain ⟨_, ⟨hv, h0⟩ | ⟨g, c, cur, hv, hb, hg, _⟩⟩ := h
  · exact ⟨none, 0, by rw [hv, h0], fun hp => absurd hp (by omega)⟩
  · exact ⟨_, c, hv, fun _ => ⟨g, rfl, hb, (h'.lt g (by rw [hv]; rfl)).2, fun k => by simp [World.frozen?, hg]⟩⟩
theorem flat_set : ∀ (l : List Op3) (k : Nat) (x : Op3), k < l.length → flat (l.set k x) = (((flat l).set (k * 3) (.int .i64 x.1)).set (k * 3 + 1) (.int .i64 x.2.1)).set (k * 3 + 2) (.int .i64 x.2.2) := by
  intro l
  induction l with
  | nil => intro k x h; simp at h
  | cons y r ih =>
    intro k x h
    cases k with
    | zero => simp [flat]
    | succ k =>
      rw [List.set_cons_succ, flat, ih k x (by simpa using h), show (k + 1) * 3 = k * 3 + 3 by omega]
      simp [flat]
/-- A lock is put into the place of another one. -/
theorem own_put3 {w : World} {base e n c g : Nat} {l : List Op3} (h : w.ownsRow base e 3 (.slice (some ⟨g, 0, none⟩) n c) n (flat l)) (hl : l.length = n) {k : Nat} (hk : k < n) (x : Op3) :
    (((w.setCell ⟨g, k * 3, none⟩ (.int .i64 x.1)).setCell ⟨g, k * 3 + 1, none⟩ (.int .i64 x.2.1)).setCell ⟨g, k * 3 + 2, none⟩ (.int .i64 x.2.2)).ownsRow base e 3 (.slice (some ⟨g, 0, none⟩) n c) n (flat (l.set k x)) := by
  obtain ⟨hx, ⟨hv, _⟩ | ⟨g2, c2, cur, hv, hb, hg, hn, hm, hsz, htk⟩⟩ := h
  · cases hv
  · simp only [Value.slice.injEq, Option.some.injEq, Addr.mk.injEq, and_true, true_and] at hv
    obtain ⟨rfl, rfl⟩ := hv
    refine ⟨by rw [flat_length, List.length_set, hl], .inr ⟨g, c, ((cur.setIfInBounds (k * 3) (.int .i64 x.1)).setIfInBounds (k * 3 + 1) (.int .i64 x.2.1)).setIfInBounds (k * 3 + 2) (.int .i64 x.2.2), rfl, hb, ?_, hn, hm, by simpa using hsz, ?_⟩⟩
    · unfold World.setCell
      simp [Array.getElem?_modify, hg]
    · rw [flat_set l k x (by omega), ← htk]
      simp only [Array.toList_setIfInBounds, List.take_set]
theorem holdL_at {l : List Op3} {x : Op3} : ∀ {k : Nat}, k < l.length → (∀ j, j < k → likeL (opAt l j) x = false) → likeL (opAt l k) x = true → holdL l x = l.set k x := by
  induction l with
  | nil => intro k hk; simp at hk
  | cons y r ih =>
    intro k hk hno hyes
    cases k with
    | zero =>
      unfold holdL
      rw [if_pos (by simpa [opAt, List.getD] using hyes)]
      rfl
    | succ k =>
      have h0 := hno 0 (by omega)
      unfold holdL
      rw [if_neg (by simpa [opAt, List.getD] using h0), List.set_cons_succ, ih (by simpa using hk) (fun j hj => by simpa [opAt, List.getD] using hno (j + 1) (by omega)) (by simpa [opAt, List.getD] using hyes)]
theorem holdL_end {l : List Op3} {x : Op3} (h : ∀ j, j < l.length → likeL (opAt l j) x = false) : holdL l x = l ++ [x] := by
  induction l with
  | nil => rfl
  | cons y r ih =>
    have h0 := h 0 (by simp)
    unfold holdL
    rw [if_neg (by simpa [opAt, List.getD] using h0), ih fun j hj => by simpa [opAt, List.getD] using h (j + 1) (by simpa using hj)]
    rfl
/-- The blocks of a table. -/
def foot (T : Nat) (hv wv : Value) (k : Nat) : Prop := k = T ∨ hv.ownBlock = some k ∨ wv.ownBlock = some k
/-- The two slices of a table, put into a block's cells. -/
def put2 (cs : Array Value) (o : Nat) (hv wv : Value) : Array Value := (cs.setIfInBounds o hv).setIfInBounds (o + 1) wv
theorem put2_size (cs : Array Value) (o : Nat) (hv wv : Value) : (put2 cs o hv wv).size = cs.size := by simp [put2]
theorem put2_at (cs : Array Value) (o : Nat) (hv wv : Value) (k : Nat) : (put2 cs o hv wv)[k]? = if k = o + 1 then (if o + 1 < cs.size then some wv else none) else if k = o then (if o < cs.size then some hv else none) else cs[k]? := by
  unfold put2
  rw [Array.getElem?_setIfInBounds, Array.getElem?_setIfInBounds, Array.size_setIfInBounds]
  by_cases h1 : k = o + 1
  · subst h1; simp
  · by_cases h2 : k = o
    · subst h2; simp
    · rw [if_neg (fun e => h1 e.symm), if_neg (fun e => h2 e.symm), if_neg h1, if_neg h2]
theorem put2_put2 (cs : Array Value) (o : Nat) (a b c d : Value) : put2 (put2 cs o a b) o c d = put2 cs o c d := by
  refine Array.ext_getElem? fun k => ?_
  rw [put2_at, put2_at, put2_at, put2_size]
  split
  · rfl
  · split <;> rfl
theorem put2_same {cs : Array Value} {o : Nat} {hv wv : Value} (h0 : cs[o]? = some hv) (h1 : cs[o + 1]? = some wv) : put2 cs o hv wv = cs := by
  refine Array.ext_getElem? fun k => ?_
  have l0 := (Array.getElem?_eq_some_iff.1 h0).1
  have l1 := (Array.getElem?_eq_some_iff.1 h1).1
  rw [put2_at, if_pos l1, if_pos l0]
  split
  · rename_i e; simp [e, h1]
  · split
    · rename_i e; simp [e, h0]
    · rfl
theorem put2_0 {cs : Array Value} {o : Nat} {wv : Value} (v : Value) (h1 : cs[o + 1]? = some wv) : cs.setIfInBounds o v = put2 cs o v wv := by
  refine Array.ext_getElem? fun k => ?_
  have l1 := (Array.getElem?_eq_some_iff.1 h1).1
  rw [put2_at, Array.getElem?_setIfInBounds]
  by_cases h2 : k = o + 1
  · subst h2
    rw [if_neg (by omega), if_pos rfl, if_pos l1, h1]
  · by_cases h3 : k = o
    · subst h3; simp
    · rw [if_neg (fun e => h3 e.symm), if_neg h2, if_neg h3]
theorem put2_1 {cs : Array Value} {o : Nat} {hv : Value} (v : Value) (h0 : cs[o]? = some hv) : cs.setIfInBounds (o + 1) v = put2 cs o hv v := by
  refine Array.ext_getElem? fun k => ?_
  have l0 := (Array.getElem?_eq_some_iff.1 h0).1
  rw [put2_at, Array.getElem?_setIfInBounds]
  by_cases h2 : k = o + 1
  · subst h2; simp
  · rw [if_neg (fun e => h2 e.symm), if_neg h2]
    by_cases h3 : k = o
    · subst h3
      rw [if_pos rfl, if_pos l0, h0]
    · rw [if_neg h3]
/-- A table in memory: in a block, from cell o on, two slices, each with a row of its own. -/
structure TabAt (w : World) (ty : TypeId) (T o : Nat) (cs : Array Value) (hv wv : Value) (s : Tab2) : Prop where
  blk : w.heap[T]? = some (.cells cs ty (0, 0))
  at0 : cs[o]? = some hv
  at1 : cs[o + 1]? = some wv
  oh : w.ownsRow (T + 1) 99 3 hv s.1.length (flat s.1)
  ow : w.ownsRow (T + 1) 99 3 wv s.2.length (flat s.2)
  apart : ∀ g, hv.ownBlock = some g → wv.ownBlock = some g → False
section
variable {w w1 : World} {F : Nat → Prop} {ty : TypeId} {T o : Nat} {cs : Array Value} {hv wv v : Value} {s : Tab2}
theorem TabAt.lt (h : TabAt w ty T o cs hv wv s) : T < w.heap.size := (Array.getElem?_eq_some_iff.1 h.blk).1
theorem TabAt.c0 (h : TabAt w ty T o cs hv wv s) : w.cell? ⟨T, o, none⟩ = some hv := by rw [cell_of_row w T _ _ _ _ h.blk]; exact h.at0
theorem TabAt.c1 (h : TabAt w ty T o cs hv wv s) : w.cell? ⟨T, o + 1, none⟩ = some wv := by rw [cell_of_row w T _ _ _ _ h.blk]; exact h.at1
theorem TabAt.thaw (h : TabAt w ty T o cs hv wv s) (k : Nat) : w.frozen? ⟨T, k, none⟩ = false := by simp [World.frozen?, h.blk]
theorem TabAt.foot_lt (h : TabAt w ty T o cs hv wv s) {k : Nat} (hk : foot T hv wv k) : T ≤ k ∧ k < w.heap.size := by
  have := h.lt
  rcases hk with rfl | hk | hk
  · omega
  · have := h.oh.lt k hk; omega
  · have := h.ow.lt k hk; omega
theorem TabAt.turn (h : TabAt w ty T o cs hv wv s) (ht : Turns F w w1) (hF : ∀ k, foot T hv wv k → ¬ F k) : TabAt w1 ty T o cs hv wv s :=
  ⟨(ht.block T h.lt (hF T (.inl rfl))).trans h.blk, h.at0, h.at1, ht.own h.oh fun g hg => hF g (.inr (.inl hg)), ht.own h.ow fun g hg => hF g (.inr (.inr hg)), h.apart⟩
theorem TabAt.below (h : TabAt w ty T o cs hv wv s) (hb : Below w.heap.size w w1) : TabAt w1 ty T o cs hv wv s := h.turn (Turns.of_below (F := fun _ => False) hb) fun _ _ hf => hf
theorem TabAt.held (h : TabAt w ty T o cs hv wv s) : IsOps w hv s.1 := isOps_row h.oh rfl
theorem TabAt.waits (h : TabAt w ty T o cs hv wv s) : IsOps w wv s.2 := isOps_row h.ow rfl
theorem TabAt.put (h : TabAt w ty T o cs hv wv s) : put2 cs o hv wv = cs := put2_same h.at0 h.at1
theorem at_put0 {a b : Value} (h : o + 1 < cs.size) : (put2 cs o a b)[o]? = some a := by rw [put2_at, if_neg (by omega), if_pos rfl, if_pos (by omega)]
theorem at_put1 {a b : Value} (h : o + 1 < cs.size) : (put2 cs o a b)[o + 1]? = some b := by rw [put2_at, if_pos rfl, if_pos h]
theorem TabAt.room (h : TabAt w ty T o cs hv wv s) : o + 1 < cs.size := (Array.getElem?_eq_some_iff.1 h.at1).1
/-- A call on a table: what it is then, and what has turned. -/
def TabStep (w w' : World) (ty : TypeId) (T o : Nat) (cs : Array Value) (hv wv : Value) (s : Tab2) : Prop := ∃ hv' wv', TabAt w' ty T o (put2 cs o hv' wv') hv' wv' s ∧ Turns (foot T hv wv) w w' ∧ ∀ k, foot T hv' wv' k → foot T hv wv k ∨ w.heap.size ≤ k
theorem TabStep.same (h : TabAt w ty T o cs hv wv s) (hb : Below w.heap.size w w1) : TabStep w w1 ty T o cs hv wv s := ⟨hv, wv, by rw [h.put]; exact h.below hb, Turns.of_below hb, fun _ hk => .inl hk⟩
theorem TabStep.trans {w2 : World} {hv1 wv1 a b : Value} {s2 : Tab2} (ht : Turns (foot T hv wv) w w1) (hf : ∀ k, foot T hv1 wv1 k → foot T hv wv k ∨ w.heap.size ≤ k) (h2 : TabStep w1 w2 ty T o (put2 cs o a b) hv1 wv1 s2) : TabStep w w2 ty T o cs hv wv s2 := by
  obtain ⟨hv2, wv2, h3, h4, h5⟩ := h2
  rw [put2_put2] at h3
  refine ⟨hv2, wv2, h3, ht.trans h4 fun k hk hk2 => ?_, fun k hk => ?_⟩
  · rcases hf k hk2 with h | h
    · exact h
    · omega
  · rcases h5 k hk with h | h
    · exact hf k h
    · exact .inr (Nat.le_trans ht.size h)
/-- Behind steps that turned nothing of it. -/
theorem TabStep.later {w2 : World} {s2 : Tab2} (ht : Turns (foot T hv wv) w w1) (h2 : TabStep w1 w2 ty T o cs hv wv s2) : TabStep w w2 ty T o cs hv wv s2 := by
  obtain ⟨hv2, wv2, h3, h4, h5⟩ := h2
  refine ⟨hv2, wv2, h3, ht.trans h4 fun _ _ hk => hk, fun k hk => ?_⟩
  rcases h5 k hk with h | h
  · exact .inl h
  · exact .inr (Nat.le_trans ht.size h)
theorem block_set {k : Nat} {u : Value} (h : w.heap[T]? = some (.cells cs ty (0, 0))) : (w.setCell ⟨T, k, none⟩ u).heap[T]? = some (.cells (cs.setIfInBounds k u) ty (0, 0)) := by
  unfold World.setCell
  simp [Array.getElem?_modify, h]
/-- The row of those that are held is another one, in a block of its own. -/
theorem tab_set0 {l : List Op3} (h : TabAt w ty T o cs hv wv s) (ht : Turns (fun k => hv.ownBlock = some k) w w1) (ho : w1.ownsRow (T + 1) 99 3 v l.length (flat l)) (hv1 : ∀ g, v.ownBlock = some g → hv.ownBlock = some g ∨ w.heap.size ≤ g) : TabStep w (w1.setCell ⟨T, o, none⟩ v) ty T o cs hv wv (l, s.2) := by
  have hl := h.lt
  have hT : w1.heap[T]? = some (.cells cs ty (0, 0)) := (ht.block T hl (fun e => by have := (h.oh.lt T e).1; omega)).trans h.blk
  refine ⟨v, wv, ⟨?_, at_put0 h.room, at_put1 h.room, ownsRow_setCell_below ho (by show T < T + 1; omega) _, ?_, fun g h1 h2 => ?_⟩, (ht.mono fun k _ e => .inr (.inl e)).setCell (.inl (.inl rfl)) _, fun k hk => ?_⟩
  · rw [block_set hT, put2_0 v h.at1]
  · exact ownsRow_setCell_below (ht.own h.ow fun g hg e => h.apart g e hg) (by show T < T + 1; omega) _
  · rcases hv1 g h1 with h3 | h3
    · exact h.apart g h3 h2
    · have := (h.ow.lt g h2).2; omega
  · rcases hk with hk | hk | hk
    · exact .inl (.inl hk)
    · rcases hv1 k hk with h3 | h3
      · exact .inl (.inr (.inl h3))
      · exact .inr h3
    · exact .inl (.inr (.inr hk))
/-- The same of those that wait. -/
theorem tab_set1 {l : List Op3} (h : TabAt w ty T o cs hv wv s) (ht : Turns (fun k => wv.ownBlock = some k) w w1) (ho : w1.ownsRow (T + 1) 99 3 v l.length (flat l)) (hv1 : ∀ g, v.ownBlock = some g → wv.ownBlock = some g ∨ w.heap.size ≤ g) : TabStep w (w1.setCell ⟨T, o + 1, none⟩ v) ty T o cs hv wv (s.1, l) := by
  have hl := h.lt
  have hT : w1.heap[T]? = some (.cells cs ty (0, 0)) := (ht.block T hl (fun e => by have := (h.ow.lt T e).1; omega)).trans h.blk
  refine ⟨hv, v, ⟨?_, at_put0 h.room, at_put1 h.room, ?_, ownsRow_setCell_below ho (by show T < T + 1; omega) _, fun g h1 h2 => ?_⟩, (ht.mono fun k _ e => .inr (.inr e)).setCell (.inl (.inl rfl)) _, fun k hk => ?_⟩
  · rw [block_set hT, put2_1 v h.at0]
  · exact ownsRow_setCell_below (ht.own h.oh fun g hg e => h.apart g hg e) (by show T < T + 1; omega) _
  · rcases hv1 g h2 with h3 | h3
    · exact h.apart g h1 h3
    · have := (h.oh.lt g h1).2; omega
  · rcases hk with hk | hk | hk
    · exact .inl (.inl hk)
    · exact .inl (.inr (.inl hk))
    · rcases hv1 k hk with h3 | h3
      · exact .inl (.inr (.inr h3))
      · exact .inr h3
/-- A lock that is held is another one. -/
theorem tab_put {g n c : Nat} (h : TabAt w ty T o cs (.slice (some ⟨g, 0, none⟩) n c) wv s) (hn : s.1.length = n) {k : Nat} (hk : k < n) (x : Op3) :
    TabStep w (((w.setCell ⟨g, k * 3, none⟩ (.int .i64 x.1)).setCell ⟨g, k * 3 + 1, none⟩ (.int .i64 x.2.1)).setCell ⟨g, k * 3 + 2, none⟩ (.int .i64 x.2.2)) ty T o cs (.slice (some ⟨g, 0, none⟩) n c) wv (s.1.set k x, s.2) := by
  have hl := h.lt
  have hg := (h.oh.lt g rfl).1
  have hoh := h.oh
  rw [hn] at hoh
  have ht : Turns (fun j => j = g) w (((w.setCell ⟨g, k * 3, none⟩ (.int .i64 x.1)).setCell ⟨g, k * 3 + 1, none⟩ (.int .i64 x.2.1)).setCell ⟨g, k * 3 + 2, none⟩ (.int .i64 x.2.2)) := by
    refine Turns.setCell (Turns.setCell (Turns.setCell (Turns.refl _ w) ?_ _) ?_ _) ?_ _ <;> exact .inl rfl
  refine ⟨_, wv, ⟨by rw [h.put]; exact (ht.block T hl (by omega)).trans h.blk, at_put0 h.room, at_put1 h.room, ?_, ht.own h.ow fun j hj e => h.apart j (by rw [e]; rfl) hj, h.apart⟩, ht.mono fun j _ e => .inr (.inl (by rw [e]; rfl)), fun j hj => .inl hj⟩
  simp only [List.length_set]
  rw [hn]
  exact own_put3 hoh hn hk x
/-- Behind an append to a row. -/
theorem turn_grown {w2 : World} {obj : Obj} (hgr : (w.drew.alloc obj).grownBy w2 hv.ownBlock) : Turns (fun k => hv.ownBlock = some k) w w2 :=
  ((Turns.refl _ w).drew.alloc obj).grown hgr fun _ hk => .inl hk
end
end Go.Proofs.YtmjjiehnjghndaaGreat

namespace Go.Proofs.YtmjjiehnjghndaaGreat
open Go.RowKit

theorem putL_riseE {l : List Int} (h : l.Pairwise (· < ·)) (n : Int) : (putL l n).Pairwise (· < ·) := by
  induction l with
  | nil => simp [putL]
  | cons x q ih =>
    rw [List.pairwise_cons] at h
    unfold putL
    split
    · exact List.pairwise_cons.2 h
    · split
      · rename_i h2
        refine List.pairwise_cons.2 ⟨fun y hy => ?_, List.pairwise_cons.2 h⟩
        rcases List.mem_cons.1 hy with rfl | hy
        · exact h2
        · have := h.1 y hy; omega
      · rename_i h1 h2
        refine List.pairwise_cons.2 ⟨fun y hy => ?_, ih h.2⟩
        rcases mem_putL hy with rfl | hy
        · omega
        · exact h.1 y hy
theorem putsO_rise (l : List Op3) : ∀ {o : List Int}, o.Pairwise (· < ·) → (putsO o l).Pairwise (· < ·) := by
  induction l with
  | nil => intro o h; exact h
  | cons x q ih => intro o h; exact ih (putL_riseE h x.1)
theorem whom_rise (s : Tab2) (t : Int) : (whomR s t).Pairwise (· < ·) := by
  unfold whomR
  split
  · exact List.Pairwise.nil
  · unfold forT
    exact putsO_rise _ (putsO_rise _ List.Pairwise.nil)
theorem whom_six {s : Tab2} (h : ∀ d x, x ∈ whomR s d → 1 ≤ x ∧ x ≤ 6) (t : Int) : (whomR s t).length ≤ 6 := by
  have h1 : (whomR s t).Nodup := (whom_rise s t).imp fun h => by omega
  have h2 := h1.length_le_of_subset (l₂ := [1, 2, 3, 4, 5, 6]) fun x hx => by
    have := h t x hx
    simp; omega
  simpa using h2
/-- The edges of the first k deals. -/
def edgesK (s : Tab2) (k : Nat) : List Edge2 := (List.range k).flatMap fun (d : Nat) => (whomR s ((d : Int) + 1)).map fun x => ((d : Int) + 1, x)
theorem edgesK_succ (s : Tab2) (k : Nat) : edgesK s (k + 1) = edgesK s k ++ (whomR s ((k : Int) + 1)).map fun x => ((k : Int) + 1, x) := by
  unfold edgesK
  rw [List.range_succ, List.flatMap_append]
  simp
theorem edgesK_len {s : Tab2} (h : ∀ d x, x ∈ whomR s d → 1 ≤ x ∧ x ≤ 6) (k : Nat) : (edgesK s k).length ≤ 6 * k := by
  induction k with
  | zero => simp [edgesK]
  | succ k ih =>
    rw [edgesK_succ, List.length_append, List.length_map]
    have := whom_six h ((k : Int) + 1)
    omega
theorem edgesK_deals {s : Tab2} (h : ∀ d x, x ∈ whomR s d → 1 ≤ x ∧ x ≤ 6) : ∀ e ∈ edgesK s 6, (1 ≤ e.1 ∧ e.1 ≤ 6) ∧ (1 ≤ e.2 ∧ e.2 ≤ 6) := by
  intro e he
  unfold edgesK at he
  obtain ⟨d, hd, he⟩ := List.mem_flatMap.1 he
  obtain ⟨x, hx, rfl⟩ := List.mem_map.1 he
  have := List.mem_range.1 hd
  exact ⟨by simp only; omega, h _ x hx⟩
/-- Two rows of unlike types lie apart. -/
theorem unlike_apart {w : World} {b1 b2 e1 e2 z1 z2 n1 n2 : Nat} {v1 v2 : Value} {x1 x2 : List Value} (h1 : w.ownsRow b1 e1 z1 v1 n1 x1) (h2 : w.ownsRow b2 e2 z2 v2 n2 x2) (he : e1 ≠ e2) : v1.ownBlock = none ∨ v1.ownBlock ≠ v2.ownBlock := by
  obtain ⟨_, ⟨hv, _⟩ | ⟨g, cap, cur, hv, _, hg, _⟩⟩ := h1
  · exact .inl (by rw [hv]; rfl)
  · refine .inr fun e => ?_
    obtain ⟨_, ⟨hv2, _⟩ | ⟨g2, cap2, cur2, hv2, _, hg2, _⟩⟩ := h2
    · rw [hv, hv2] at e; cases e
    · rw [hv, hv2] at e
      simp only [Value.ownBlock, Option.some.injEq] at e
      subst e
      rw [hg] at hg2
      simp only [Option.some.injEq, Obj.cells.injEq] at hg2
      exact he hg2.2.1
end Go.Proofs.YtmjjiehnjghndaaGreat
