/-
  PROVED HERE: package locks' table keeps what it is asked by one who only asks (LocksQ): New, Ask, For (and Held) answer as the document's table on lists, over a table in memory.
  Conditions: the lists are short.
  PROVED HERE: slices.DeleteFunc over a row of locks of one's own, for any closure: what is left are those that it says no to, in the same row. Of the old memory that row's block alone may turn.
  Conditions: what the closure answers, whatever that row holds meanwhile, is a premise; the list is short.
-/
import Derived.Test.YtmjjiehnjghndaaGreatMgbr
import Derived.Lib.SliceRun
import Derived.Test.YtmjjiehnjghndaaGreatMgbn
import Derived.Test.YtmjjiehnjghndaaGreatMgar
import Derived.Laws.IdiomCopy
import Derived.Deep.Upon
namespace Go.Proofs.YtmjjiehnjghndaaGreat
open Go.RowKit

theorem pNew_any (w : World) : Calls Tryz.prog 35 #[] w fun e w' => e = .returned (.pointer (some ⟨w.heap.size, 0, none⟩)) ∧ TabAt w' 96 w.heap.size 0 #[.slice none 0 0, .slice none 0 0] (.slice none 0 0) (.slice none 0 0) ([], []) ∧ Below w.heap.size w w' := by
  go_enter Tryz.func35, Tryz.ntmps35
  go_wp2
  go_ret
  exact ⟨rfl, ⟨heap_alloc_new w _, rfl, rfl, World.ownsRow_nil _ _ _ _, World.ownsRow_nil _ _ _ _, fun g h _ => by simp [Value.ownBlock] at h⟩, (Below.refl _ w).alloc (Nat.le_refl _) _⟩
/-- A table of package locks in memory. -/
def PTab (w : World) (T : Nat) (F : Nat → Prop) (s : Tab2) : Prop := TabOk s ∧ ∃ hv wv, TabAt w 96 T 0 #[hv, wv] hv wv s ∧ ∀ k, F k ↔ foot T hv wv k
theorem PTab.of_step {w w' : World} {T : Nat} {F : Nat → Prop} {hv wv : Value} {s2 : Tab2} (hF : ∀ k, F k ↔ foot T hv wv k) (hst : TabStep w w' 96 T 0 #[hv, wv] hv wv s2) (hok : TabOk s2) : ∃ F', PTab w' T F' s2 ∧ Turns F w w' ∧ ∀ k, F' k → F k ∨ w.heap.size ≤ k := by
  obtain ⟨hv', wv', h1, h2, h3⟩ := hst
  refine ⟨foot T hv' wv', ⟨hok, hv', wv', h1, fun _ => Iff.rfl⟩, h2.mono fun k _ hk => (hF k).2 hk, fun k hk => ?_⟩
  rcases h3 k hk with h | h
  · exact .inl ((hF k).2 h)
  · exact .inr h
theorem locksQ : LocksQ PTab where
  stays := fun {w w' T F s} G h ht hG => by
    obtain ⟨hok, hv, wv, h1, h2⟩ := h
    exact ⟨hok, hv, wv, h1.turn ht fun k hk => hG k ((h2 k).2 hk), h2⟩
  lt := fun {w T F s} h k hk => by
    obtain ⟨hok, hv, wv, h1, h2⟩ := h
    exact (h1.foot_lt ((h2 k).1 hk)).2
  new := fun w => (pNew_any w).mono fun _ _ ⟨h1, h2, h3⟩ => ⟨w.heap.size, foot w.heap.size (.slice none 0 0) (.slice none 0 0), h1, ⟨tab_nil, _, _, h2, fun _ => Iff.rfl⟩, h3, fun k hk => by
    rcases hk with hk | hk | hk
    · omega
    · simp [Value.ownBlock] at hk
    · simp [Value.ownBlock] at hk⟩
  ask := fun w T F s x h hl1 hl2 => by
    obtain ⟨hok, hv, wv, h1, h2⟩ := h
    exact (pAsk_any T _ hv wv s x w h1 (by omega) (by omega) hok.locks.1 hok.locks.2).mono fun _ _ ⟨he, hst⟩ => ⟨he, PTab.of_step h2 hst (ask_ok hok x)⟩
  whom := fun w T F s x h hl1 hl2 => by
    obtain ⟨hok, hv, wv, h1, h2⟩ := h
    exact pFor_any T _ hv wv s x w h1 (by omega) (by omega) hok.locks.1 hok.locks.2
end Go.Proofs.YtmjjiehnjghndaaGreat

namespace Go.Proofs.YtmjjiehnjghndaaGreat
open Go.RowKit

/-- Of the blocks below a base one alone has turned. -/
structure SoleL (g B : Nat) (w w' : World) : Prop where
  os : w'.os = w.os
  tape : w'.tape = w.tape
  output : w'.output = w.output
  size : w.heap.size ≤ w'.heap.size
  block : ∀ k, k < B → k ≠ g → w'.heap[k]? = w.heap[k]?
theorem SoleL.refl (g B : Nat) (w : World) : SoleL g B w w := ⟨rfl, rfl, rfl, Nat.le_refl _, fun _ _ _ => rfl⟩
theorem SoleL.trans {g B : Nat} {w w1 w2 : World} (h : SoleL g B w w1) (k : SoleL g B w1 w2) : SoleL g B w w2 :=
  ⟨k.os.trans h.os, k.tape.trans h.tape, k.output.trans h.output, Nat.le_trans h.size k.size, fun j h1 h2 => (k.block j h1 h2).trans (h.block j h1 h2)⟩
theorem SoleL.of_below {g B : Nat} {w w1 : World} (h : Below B w w1) : SoleL g B w w1 := ⟨h.os, h.tape, h.output, h.size, fun k hk _ => h.block k hk⟩
theorem SoleL.turns {g : Nat} {w w1 : World} (h : SoleL g w.heap.size w w1) : Turns (fun k => some g = some k) w w1 := ⟨h.os, h.tape, h.output, h.size, fun k hk hne => h.block k hk (fun e => hne (by rw [e]))⟩
theorem SoleL.setCell {g B : Nat} {w w1 : World} (h : SoleL g B w w1) (k : Nat) (v : Value) : SoleL g B w (w1.setCell ⟨g, k, none⟩ v) :=
  ⟨h.os, h.tape, h.output, by simpa using h.size, fun j h1 h2 => (Below.heap_setCell w1 ⟨g, k, none⟩ v j h2).trans (h.block j h1 h2)⟩
theorem SoleL.setCells {g B : Nat} {w : World} : ∀ (vs : List Value) (o : Nat) {w1 : World}, SoleL g B w w1 → SoleL g B w (w1.setCells g o vs)
  | [], _, _, h => h
  | v :: r, o, _, h => SoleL.setCells r (o + 1) (h.setCell o v)
/-- A row of locks in a block with so many cells, by a function of the place. -/
def RowL (w : World) (g n c : Nat) (d : Nat → Op3) : Prop := ∃ cur : Array Value, w.heap[g]? = some (.cells cur 99 (0, 0)) ∧ cur.size = c ∧ n * 3 ≤ c ∧ ∀ k, k < n → cur[k * 3]? = some (.int .i64 (d k).1) ∧ cur[k * 3 + 1]? = some (.int .i64 (d k).2.1) ∧ cur[k * 3 + 2]? = some (.int .i64 (d k).2.2)
theorem RowL.cell {w : World} {g n c : Nat} {d : Nat → Op3} (h : RowL w g n c d) {k : Nat} (hk : k < n) {t a i : Int} (e : d k = (t, a, i)) : w.cell? ⟨g, k * 3, none⟩ = some (.int .i64 t) ∧ w.cell? ⟨g, k * 3 + 1, none⟩ = some (.int .i64 a) ∧ w.cell? ⟨g, k * 3 + 2, none⟩ = some (.int .i64 i) := by
  obtain ⟨cur, h1, -, -, h2⟩ := h
  rw [cell_of_row w g _ _ _ _ h1, cell_of_row w g _ _ _ _ h1, cell_of_row w g _ _ _ _ h1]
  have := h2 k hk
  rw [e] at this
  exact this
theorem RowL.thaw {w : World} {g n c : Nat} {d : Nat → Op3} (h : RowL w g n c d) (k : Nat) : w.frozen? ⟨g, k, none⟩ = false := by
  obtain ⟨cur, h1, h2⟩ := h
  simp [World.frozen?, h1]
theorem RowL.lt {w : World} {g n c : Nat} {d : Nat → Op3} (h : RowL w g n c d) : g < w.heap.size := by
  obtain ⟨cur, h1, h2⟩ := h
  exact (Array.getElem?_eq_some_iff.1 h1).1
theorem RowL.same {w w' : World} {g n c : Nat} {d : Nat → Op3} (h : RowL w g n c d) (hb : w'.heap[g]? = w.heap[g]?) : RowL w' g n c d := by
  obtain ⟨cur, h1, h2⟩ := h
  exact ⟨cur, hb.trans h1, h2⟩
def setL (d : Nat → Op3) (i : Nat) (p : Op3) : Nat → Op3 := fun k => if k = i then p else d k
theorem RowL.set {w : World} {g n c : Nat} {d : Nat → Op3} (h : RowL w g n c d) {j : Nat} (hj : j < n) (t a i : Int) : RowL (((w.setCell ⟨g, j * 3, none⟩ (.int .i64 t)).setCell ⟨g, j * 3 + 1, none⟩ (.int .i64 a)).setCell ⟨g, j * 3 + 2, none⟩ (.int .i64 i)) g n c (setL d j (t, a, i)) := by
  obtain ⟨cur, h1, hc, hn, h2⟩ := h
  refine ⟨((cur.setIfInBounds (j * 3) (.int .i64 t)).setIfInBounds (j * 3 + 1) (.int .i64 a)).setIfInBounds (j * 3 + 2) (.int .i64 i), ?_, by simpa using hc, hn, fun k hk => ?_⟩
  · unfold World.setCell
    simp [Array.getElem?_modify, h1]
  · obtain ⟨k0, k1, k2⟩ := h2 k hk
    unfold setL
    simp only [Array.getElem?_setIfInBounds, Array.size_setIfInBounds]
    by_cases e : k = j
    · subst e
      refine ⟨?_, ?_, ?_⟩
      · rw [if_pos rfl, if_neg (by omega), if_neg (by omega), if_pos rfl, if_pos (by omega)]
      · rw [if_pos rfl, if_neg (by omega), if_pos rfl, if_pos (by omega)]
      · rw [if_pos rfl, if_pos rfl, if_pos (by omega)]
    · refine ⟨?_, ?_, ?_⟩
      · rw [if_neg e, if_neg (by omega), if_neg (by omega), if_neg (by omega)]; exact k0
      · rw [if_neg e, if_neg (by omega), if_neg (by omega), if_neg (by omega)]; exact k1
      · rw [if_neg e, if_neg (by omega), if_neg (by omega), if_neg (by omega)]; exact k2
/-- A row of locks owns what its first places say. -/
theorem RowL.own {w : World} {g n c base cap : Nat} {d : Nat → Op3} (h : RowL w g n c d) {l : List Op3} (hl : l.length ≤ n) (hd : ∀ k, k < l.length → d k = opAt l k) (hc : c = cap * 3) (hcm : cap ≤ maxLen) (hb : base ≤ g) : w.ownsRow base 99 3 (.slice (some ⟨g, 0, none⟩) l.length cap) l.length (flat l) := by
  obtain ⟨cur, h1, hs, hn, h2⟩ := h
  refine ⟨by rw [flat_length], .inr ⟨g, cap, cur, rfl, hb, h1, by omega, hcm, by rw [hs, hc], ?_⟩⟩
  refine List.ext_getElem? fun j => ?_
  rw [List.getElem?_take]
  by_cases hj : j < l.length * 3
  · rw [if_pos hj]
    obtain ⟨f0, f1, f2⟩ := flat_at l (j / 3) (by omega)
    obtain ⟨g0, g1, g2⟩ := h2 (j / 3) (by omega)
    rw [hd (j / 3) (by omega)] at g0 g1 g2
    rcases (show j = j / 3 * 3 ∨ j = j / 3 * 3 + 1 ∨ j = j / 3 * 3 + 2 by omega) with e | e | e
    · rw [← e] at g0 f0; rw [f0]; simpa [opAt] using g0
    · rw [← e] at g1 f1; rw [f1]; simpa [opAt] using g1
    · rw [← e] at g2 f2; rw [f2]; simpa [opAt] using g2
  · rw [if_neg hj, List.getElem?_eq_none (by rw [flat_length]; omega)]
/-- What lies behind a row's first places is another thing. -/
theorem setCells_row {g : Nat} {T : TypeId} : ∀ (vs : List Value) (o : Nat) {w : World} {cur : Array Value}, w.heap[g]? = some (.cells cur T (0, 0)) → ∃ cur2 : Array Value, (w.setCells g o vs).heap[g]? = some (.cells cur2 T (0, 0)) ∧ cur2.size = cur.size ∧ ∀ k, k < o → cur2[k]? = cur[k]?
  | [], _, _, cur, h => ⟨cur, h, rfl, fun _ _ => rfl⟩
  | v :: r, o, w, cur, h => by
    obtain ⟨c2, h1, h2, h3⟩ := setCells_row (g := g) (T := T) r (o + 1) (w := w.setCell ⟨g, o, none⟩ v) (cur := cur.setIfInBounds o v) (by unfold World.setCell; simp [Array.getElem?_modify, h])
    exact ⟨c2, h1, by rw [h2]; simp, fun k hk => by rw [h3 k (by omega), Array.getElem?_setIfInBounds, if_neg (by omega)]⟩
theorem RowL.cut {w : World} {g n c : Nat} {d : Nat → Op3} (h : RowL w g n c d) {m : Nat} (hm : m ≤ n) (zs : List Value) : RowL (w.setCells g (m * 3) zs) g m c d := by
  obtain ⟨cur, h1, hs, hn, h2⟩ := h
  obtain ⟨c2, k1, k2, k3⟩ := setCells_row (g := g) (T := 99) zs (m * 3) h1
  refine ⟨c2, k1, by rw [k2, hs], by omega, fun k hk => ?_⟩
  rw [k3 _ (by omega), k3 _ (by omega), k3 _ (by omega)]
  exact h2 k (by omega)
/-- The kept ones of the first j. -/
def remL (l : List Op3) (q : Op3 → Bool) (j : Nat) : List Op3 := (l.take j).filter fun e => !q e
theorem remL_yes {l : List Op3} {q : Op3 → Bool} {j : Nat} {e : Op3} (hj : j < l.length) (he : opAt l j = e) (h : q e = false) : remL l q (j + 1) = remL l q j ++ [e] := by
  unfold remL
  have : l[j] = e := by rw [← he]; simp [opAt, List.getD, List.getElem?_eq_getElem hj]
  rw [List.take_succ_eq_append_getElem hj, List.filter_append, this]
  simp [h]
theorem remL_no {l : List Op3} {q : Op3 → Bool} {j : Nat} {e : Op3} (hj : j < l.length) (he : opAt l j = e) (h : q e = true) : remL l q (j + 1) = remL l q j := by
  unfold remL
  have : l[j] = e := by rw [← he]; simp [opAt, List.getD, List.getElem?_eq_getElem hj]
  rw [List.take_succ_eq_append_getElem hj, List.filter_append, this]
  simp [h]
theorem remL_all {l : List Op3} {q : Op3 → Bool} {j : Nat} (h : (l.take j).any q = false) : remL l q j = l.take j := by
  unfold remL
  refine List.filter_eq_self.2 fun e he => ?_
  have := List.any_eq_false.1 h e he
  simpa using this
theorem remL_end (l : List Op3) (q : Op3 → Bool) : remL l q l.length = l.filter fun e => !q e := by unfold remL; rw [List.take_length]
/-- What the row holds when the first j have been looked at and i of them are kept. -/
structure HalfL (l : List Op3) (q : Op3 → Bool) (i j : Nat) (d : Nat → Op3) : Prop where
  lt : i < j
  len : (remL l q j).length = i
  low : ∀ k, k < i → d k = opAt (remL l q j) k
  high : ∀ k, j ≤ k → k < l.length → d k = opAt l k
theorem HalfL.start {l : List Op3} {q : Op3 → Bool} {k : Nat} (hk : k < l.length) (hq : q (opAt l k) = true) (h : (l.take k).any q = false) : HalfL l q k (k + 1) (opAt l) := by
  have e := (remL_no hk rfl hq).trans (remL_all h)
  refine ⟨by omega, by rw [e, List.length_take]; omega, fun i hi => ?_, fun _ _ _ => rfl⟩
  rw [e]; simp [opAt, List.getD, hi]
theorem HalfL.keep {l : List Op3} {q : Op3 → Bool} {i j : Nat} {d : Nat → Op3} {e : Op3} (h : HalfL l q i j d) (hj : j < l.length) (he : opAt l j = e) (hq : q e = false) : HalfL l q (i + 1) (j + 1) (setL d i e) := by
  have h1 := remL_yes hj he hq
  refine ⟨by have := h.lt; omega, by rw [h1, List.length_append, h.len]; rfl, fun k hk => ?_, fun k hk hl => ?_⟩
  · rw [h1]
    unfold setL
    by_cases e1 : k = i
    · rw [if_pos e1, e1]
      simp [opAt, List.getD, ← h.len]
    · rw [if_neg e1, h.low k (by omega)]
      simp [opAt, List.getD, List.getElem?_append_left (show k < (remL l q j).length by rw [h.len]; omega)]
  · unfold setL
    rw [if_neg (by have := h.lt; omega), h.high k (by omega) hl]
theorem HalfL.skip {l : List Op3} {q : Op3 → Bool} {i j : Nat} {d : Nat → Op3} {e : Op3} (h : HalfL l q i j d) (hj : j < l.length) (he : opAt l j = e) (hq : q e = true) : HalfL l q i (j + 1) d := by
  have h1 := remL_no hj he hq
  exact ⟨by have := h.lt; omega, by rw [h1]; exact h.len, fun k hk => by rw [h1]; exact h.low k hk, fun k hk hl => h.high k (by omega) hl⟩
theorem run_clear_three (P : Program) (w : World) (t e ty : TypeId) (ht : P.underlying t = some (.slice e)) (hv : ∀ w, (zeroValue e).run P w = .ok (.agg #[.int .i64 0, .int .i64 0, .int .i64 0]) w) (b o n c : Nat) (hn : 0 < n)
    (hc : ∀ j, j < n * 3 → (w.cell? ⟨b, o + j, none⟩).isSome = true) (hf : ∀ j, j < n * 3 → w.frozen? ⟨b, o + j, none⟩ = false) :
    ∃ zs, (Builtin.clear_ #[t] ty #[.slice (some ⟨b, o, none⟩) n c]).run P w = .ok (.tuple #[]) (w.setCells b o zs) := by
  have hz : ∀ v ∈ (Builtin.zeroCells #[.int .i64 0, .int .i64 0, .int .i64 0] n).toList, v.oneCell' = true := by
    intro v hv'
    simp only [Builtin.zeroCells, Array.toList_map, List.mem_map] at hv'
    obtain ⟨k, _, rfl⟩ := hv'
    have : k % 3 = 0 ∨ k % 3 = 1 ∨ k % 3 = 2 := by omega
    rcases this with e | e | e <;> simp [e] <;> rfl
  have hlen : (Builtin.zeroCells #[.int .i64 0, .int .i64 0, .int .i64 0] n).toList.length = n * 3 := by simp [Builtin.zeroCells]
  have hst := run_storeCells_cells (P := P) b o (Builtin.zeroCells #[.int .i64 0, .int .i64 0, .int .i64 0] n).toList 0 w (by rw [hlen]; simpa using hc) (by rw [hlen]; simpa using hf) hz
  simp only [Nat.add_zero] at hst
  obtain ⟨m, rfl⟩ : ∃ m, n = m + 1 := ⟨n - 1, by omega⟩
  exact ⟨(Builtin.zeroCells #[.int .i64 0, .int .i64 0, .int .i64 0] (m + 1)).toList, by simp [Builtin.clear_, run_underlying ht, hv, hst, Value.cells]⟩
theorem zero_lock (w : World) : (zeroValue 99).run Tryz.prog w = .ok (.agg #[.int .i64 0, .int .i64 0, .int .i64 0]) w := Tryz.zeroValue99 w
set_option maxHeartbeats 8000000 in
set_option maxRecDepth 100000 in
theorem delete_lock (l : List Op3) (v : Value) (q : Op3 → Bool) (N base : Nat) (C : Array Value) (w : World) (hcall : ∀ (args : Array Value) (W : World), (callFunc N args).run Tryz.prog W = .ok (.enter N args) W) (hown : w.ownsRow base 99 3 v l.length (flat l)) (hlen : l.length ≤ 400)
    (hp : ∀ W : World, Turns (fun k => v.ownBlock = some k) w W → ∀ e ∈ l, Calls Tryz.prog N (#[lkV e] ++ C) W fun r w' => r = .returned (.bool (q e)) ∧ Below W.heap.size W w') :
    Calls Tryz.prog 99 #[v, .func (.func N) #[] C] w fun r w' => ∃ v', r = .returned v' ∧ w'.ownsRow base 99 3 v' (l.filter fun e => !q e).length (flat (l.filter fun e => !q e)) ∧ Turns (fun k => v.ownBlock = some k) w w' ∧ ∀ g, v'.ownBlock = some g → v.ownBlock = some g := by
  have hI := isOps_row hown rfl
  have HIX : Hid (Calls Tryz.prog 100 #[v, .func (.func N) #[] C] w fun r w' => ∃ n : Int, r = .returned (.int .i64 n) ∧ FirstL l q n ∧ Below w.heap.size w w') := index_lock l v q N C w hcall hI (by omega) fun W hW e he => hp W (Turns.of_below hW) e he
  have HP : Hid (∀ W : World, Turns (fun k => v.ownBlock = some k) w W → ∀ e ∈ l, Calls Tryz.prog N (#[lkV e] ++ C) W fun r w' => r = .returned (.bool (q e)) ∧ Below W.heap.size W w') := hp
  have HOWN : Hid (w.ownsRow base 99 3 v l.length (flat l)) := hown
  clear hI hp hown
  go_enter Tryz.func99, Tryz.ntmps99
  go_wp2_with fail
  refine HIX.out.mono ?_
  rintro e w1 ⟨n, rfl, hfirst, hb1⟩
  have HB1 : Hid (Below w.heap.size w w1) := hb1
  clear hb1
  rcases hfirst with ⟨rfl, hno⟩ | ⟨k0, rfl, hk0, hq0, hno⟩
  · have HF : Hid ((l.filter fun e => !q e) = l) := List.filter_eq_self.2 fun e he => by simpa using List.any_eq_false.1 hno e he
    clear hno
    go_wp2_with fail
    go_ret
    exact ⟨_, rfl, by rw [HF.out]; exact (Turns.of_below (F := fun _ => False) HB1.out).own HOWN.out fun _ _ hf => hf, Turns.of_below HB1.out, fun _ hg => hg⟩
  · obtain ⟨-, ⟨rfl, hz⟩ | ⟨g, cap, cur, rfl, hbase, hg, hcap, hcm, hcs, htk⟩⟩ := HOWN.out
    · omega
    · have HH : Hid (HalfL l q k0 (k0 + 1) (opAt l)) := HalfL.start hk0 hq0 hno
      have HR1 : Hid (RowL w1 g l.length (cap * 3) (opAt l)) := by
        refine ⟨cur, (HB1.out.block g (Array.getElem?_eq_some_iff.1 hg).1).trans hg, hcs, by omega, fun k hk => ?_⟩
        obtain ⟨f0, f1, f2⟩ := flat_at l k hk
        rw [← htk] at f0 f1 f2
        rw [List.getElem?_take] at f0 f1 f2
        rw [if_pos (by omega)] at f0 f1 f2
        simpa [opAt] using And.intro f0 (And.intro f1 f2)
      have HS1 : Hid (SoleL g w.heap.size w w1) := SoleL.of_below HB1.out
      have hk0' : ((k0 : Int) == -1) = false := beq_eq_false_iff_ne.2 (by omega)
      have hgw : g < w.heap.size := (Array.getElem?_eq_some_iff.1 hg).1
      have HCB : Hid (base ≤ g ∧ cap ≤ maxLen) := ⟨hbase, hcm⟩
      clear hno hq0 hg hcs htk hbase HB1 HIX HOWN
      go_wp2_with fail
      go_loopw [5, 6, 7] (fun v5 v6 _ wr => ∃ (i j : Nat) (d : Nat → Op3), v5 = .int .i64 i ∧ v6 = .int .i64 j ∧ j ≤ l.length ∧ HalfL l q i j d ∧ RowL wr g l.length (cap * 3) d ∧ SoleL g w.heap.size w wr) (fun _ v6 _ _ => l.length - (intOf v6).toNat)
      case atStart => exact ⟨k0, k0 + 1, _, rfl, by go_num, by omega, HH.out, HR1.out, HS1.out⟩
      case round =>
        obtain ⟨i, j, d, rfl, rfl, hj, hhalf, hrow, hsole⟩ := hrel
        have HHF : Hid (HalfL l q i j d) := hhalf
        have HRW : Hid (RowL wr g l.length (cap * 3) d) := hrow
        have HSW : Hid (SoleL g w.heap.size w wr) := hsole
        have hij := hhalf.lt
        have hgr := hrow.lt
        clear hhalf hrow hsole
        by_cases hlt : j < l.length
        · have hlt' : (j : Int) < (l.length : Int) := by omega
          have hil : (i : Int) < (l.length : Int) := by omega
          obtain ⟨⟨t, a, m⟩, ho⟩ : ∃ o : Op3, opAt l j = o := ⟨_, rfl⟩
          obtain ⟨⟨t2, a2, m2⟩, ho2⟩ : ∃ o : Op3, d i = o := ⟨_, rfl⟩
          obtain ⟨c0, c1, c2⟩ := HRW.out.cell hlt ((HHF.out.high j (Nat.le_refl _) hlt).trans ho)
          have HG : Hid (opAt l j = (t, a, m)) := ho
          have HG2 : Hid (d i = (t2, a2, m2)) := ho2
          have HM : Hid ((t, a, m) ∈ l) := by show (t, a, m) ∈ l; rw [← ho]; exact opAt_mem hlt
          clear ho ho2
          go_upto_region 8 with (fail)
          obtain ⟨W, hW⟩ : ∃ W, W = wr.alloc (.cells #[.int .i64 t, .int .i64 a, .int .i64 m] 99) := ⟨_, rfl⟩
          rw [← hW]
          obtain ⟨P, hP⟩ : ∃ P, P = wr.heap.size := ⟨_, rfl⟩
          rw [← hP]
          have p0 : W.cell? ⟨P, 0, none⟩ = some (.int .i64 t) := by rw [hW, hP]; simp
          have p1 : W.cell? ⟨P, 1, none⟩ = some (.int .i64 a) := by rw [hW, hP]; simp
          have p2 : W.cell? ⟨P, 2, none⟩ = some (.int .i64 m) := by rw [hW, hP]; simp
          have hbw : Below wr.heap.size wr W := by rw [hW]; exact (Below.refl _ wr).alloc (Nat.le_refl _) _
          have HR2 : Hid (RowL W g l.length (cap * 3) d) := HRW.out.same (hbw.block g hgr)
          have HS2 : Hid (SoleL g w.heap.size w W) := HSW.out.trans (SoleL.of_below (hbw.mono HSW.out.size))
          have hgP : g < P := by omega
          have hPW : P < W.heap.size := World.block_lt_of_cell? W _ p0
          clear hW hP hbw HRW HSW c0 c1 c2 hgr
          cases hq : q (t, a, m) with
          | false =>
            have HK : Hid (HalfL l q (i + 1) (j + 1) (setL d i (t, a, m))) := HHF.out.keep hlt HG.out hq
            have HC : Hid (Calls Tryz.prog N (#[.agg #[.int .i64 t, .int .i64 a, .int .i64 m]] ++ C) W fun r w' => r = .returned (.bool false) ∧ Below W.heap.size W w') := hq ▸ HP.out W HS2.out.turns _ HM.out
            clear hq
            go_wp2_with fail
            refine HC.out.mono ?_
            rintro e w2 ⟨rfl, hb2⟩
            have r0 := (hb2.cell (p := ⟨P, 0, none⟩) hPW).trans p0
            have r1 := (hb2.cell (p := ⟨P, 1, none⟩) hPW).trans p1
            have r2 := (hb2.cell (p := ⟨P, 2, none⟩) hPW).trans p2
            have HR3 : Hid (RowL w2 g l.length (cap * 3) d) := HR2.out.same (hb2.block g (by omega))
            have HS3 : Hid (SoleL g w.heap.size w w2) := HS2.out.trans (SoleL.of_below (hb2.mono HS2.out.size))
            obtain ⟨d0, d1, d2⟩ := HR3.out.cell (show i < l.length by omega) HG2.out
            have y0 := HR3.out.thaw (i * 3)
            have y1 := HR3.out.thaw (i * 3 + 1)
            have y2 := HR3.out.thaw (i * 3 + 2)
            clear hb2 p0 p1 p2
            go_wp2_with fail
            go_roundw
            case rel => exact ⟨i + 1, j + 1, _, by go_num, by go_num, by omega, HK.out, HR3.out.set (by omega) t a m, ((HS3.out.setCell _ _).setCell _ _).setCell _ _⟩
            case measure => simp [intOf]; omega
          | true =>
            have HK : Hid (HalfL l q i (j + 1) d) := HHF.out.skip hlt HG.out hq
            have HC : Hid (Calls Tryz.prog N (#[.agg #[.int .i64 t, .int .i64 a, .int .i64 m]] ++ C) W fun r w' => r = .returned (.bool true) ∧ Below W.heap.size W w') := hq ▸ HP.out W HS2.out.turns _ HM.out
            clear hq
            go_wp2_with fail
            refine HC.out.mono ?_
            rintro e w2 ⟨rfl, hb2⟩
            have HR3 : Hid (RowL w2 g l.length (cap * 3) d) := HR2.out.same (hb2.block g (by omega))
            have HS3 : Hid (SoleL g w.heap.size w w2) := HS2.out.trans (SoleL.of_below (hb2.mono HS2.out.size))
            clear hb2 p0 p1 p2
            go_wp2_with fail
            go_roundw
            case rel => exact ⟨i, j + 1, _, by go_num, by go_num, by omega, HK.out, HR3.out, HS3.out⟩
            case measure => simp [intOf]; omega
        · have hlt' : ¬ (j : Int) < (l.length : Int) := by omega
          obtain rfl : j = l.length := by omega
          obtain ⟨zs, hcl⟩ := run_clear_three Tryz.prog wr 94 99 0 Tryz.underlying94 zero_lock g (i * 3) (l.length - i) (cap - i) (by omega)
            (fun m hm => by
              obtain ⟨⟨x1, x2, x3⟩, hx⟩ : ∃ o : Op3, d (i + m / 3) = o := ⟨_, rfl⟩
              obtain ⟨b0, b1, b2⟩ := HRW.out.cell (show i + m / 3 < l.length by omega) hx
              rcases (show i * 3 + m = (i + m / 3) * 3 ∨ i * 3 + m = (i + m / 3) * 3 + 1 ∨ i * 3 + m = (i + m / 3) * 3 + 2 by omega) with e | e | e <;> rw [e]
              · rw [b0]; rfl
              · rw [b1]; rfl
              · rw [b2]; rfl)
            (fun m _ => HRW.out.thaw _)
          have HCL : Hid ((Builtin.clear_ #[94] 0 #[.slice (some ⟨g, i * 3, none⟩) (l.length - i) (cap - i)]).run Tryz.prog wr = .ok (.tuple #[]) (wr.setCells g (i * 3) zs)) := hcl
          have HE : Hid ((wr.setCells g (i * 3) zs).ownsRow base 99 3 (.slice (some ⟨g, 0, none⟩) i cap) (l.filter fun e => !q e).length (flat (l.filter fun e => !q e))) := by
            show World.ownsRow _ _ _ _ _ _ _
            have h1 := (HRW.out.cut (m := i) (by omega) zs).own (base := base) (cap := cap) (l := remL l q l.length) (by rw [HHF.out.len]; exact Nat.le_refl _) (fun k hk => HHF.out.low k (by rw [HHF.out.len] at hk; exact hk)) rfl HCB.out.2 HCB.out.1
            rw [HHF.out.len, remL_end] at h1
            rw [show (l.filter fun e => !q e).length = i by rw [← remL_end]; exact HHF.out.len]
            exact h1
          have hS : Turns (fun k => some g = some k) w (wr.setCells g (i * 3) zs) := (SoleL.setCells zs (i * 3) HSW.out).turns
          have HS : Hid (Turns (fun k => some g = some k) w (wr.setCells g (i * 3) zs)) := hS
          have hil : (i : Int) ≤ (l.length : Int) := by omega
          have hic : (i : Int) ≤ (cap : Int) := by omega
          have hne : ¬ cap = i := by omega
          clear hS HCL
          go_wp2
          go_ret
          exact ⟨_, rfl, HE.out, HS.out, fun _ hg => hg⟩
end Go.Proofs.YtmjjiehnjghndaaGreat
