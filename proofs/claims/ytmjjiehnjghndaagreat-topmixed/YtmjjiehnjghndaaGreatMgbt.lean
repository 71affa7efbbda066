/-
  PROVED HERE: laneref1.Table's method Free, over a table in memory: who is held by that. Of the blocks that there were, only the table's own turn.
  Conditions: the lists are short.
  (Of these, what the claim wants: the rest was left out.)
  PROVED HERE: memory while locks.Table's Free goes over those that wait: the table, those that have come to be held, those that are still to come (they lie where those that waited lay).
  Conditions: none.
-/
import Derived.Test.YtmjjiehnjghndaaGreatMgbq
import Derived.Test.YtmjjiehnjghndaaGreatMgbp
import Derived.Test.YtmjjiehnjghndaaGreatMgbs
namespace Go.Proofs.YtmjjiehnjghndaaGreat
open Go.RowKit

/-- Memory while those that wait are gone over: the table, those that have come to be held, those that are still to come. -/
structure FreeAt (w0 w : World) (ty : TypeId) (T o : Nat) (cs : Array Value) (hv0 wv0 rv : Value) (rest : List Op3) (st : Tab2 × List Op3) (hv wv ov : Value) : Prop where
  tab : TabAt w ty T o (put2 cs o hv wv) hv wv st.1
  out : w.ownsRow w0.heap.size 99 3 ov st.2.length (flat st.2)
  row : w.ownsRow w0.heap.size 99 3 rv rest.length (flat rest)
  so : ∀ g, ov.ownBlock = some g → ¬ foot T hv wv g
  sr : ∀ g, rv.ownBlock = some g → ¬ foot T hv wv g ∧ ov.ownBlock ≠ some g
  turn : Turns (foot T hv0 wv0) w0 w
  feet : ∀ k, foot T hv wv k → foot T hv0 wv0 k ∨ w0.heap.size ≤ k
theorem FreeAt.below {w0 w w1 : World} {ty : TypeId} {T o : Nat} {cs : Array Value} {hv0 wv0 rv hv wv ov : Value} {rest : List Op3} {st : Tab2 × List Op3} (h : FreeAt w0 w ty T o cs hv0 wv0 rv rest st hv wv ov) (hb : Below w.heap.size w w1) : FreeAt w0 w1 ty T o cs hv0 wv0 rv rest st hv wv ov :=
  ⟨h.tab.below hb, (Turns.of_below (F := fun _ => False) hb).own h.out fun _ _ hf => hf, (Turns.of_below (F := fun _ => False) hb).own h.row fun _ _ hf => hf, h.so, h.sr, h.turn.then_below hb, h.feet⟩
theorem FreeAt.step {w0 w w1 : World} {ty : TypeId} {T o : Nat} {cs : Array Value} {hv0 wv0 rv hv wv ov : Value} {rest : List Op3} {st : Tab2 × List Op3} {s2 : Tab2} (h : FreeAt w0 w ty T o cs hv0 wv0 rv rest st hv wv ov) (hs : TabStep w w1 ty T o (put2 cs o hv wv) hv wv s2) : ∃ hv1 wv1, FreeAt w0 w1 ty T o cs hv0 wv0 rv rest (s2, st.2) hv1 wv1 ov := by
  obtain ⟨hv1, wv1, ht, htu, hf⟩ := hs
  rw [put2_put2] at ht
  refine ⟨hv1, wv1, ht, htu.own h.out fun g hg => h.so g hg, htu.own h.row fun g hg => (h.sr g hg).1, fun g hg hk => ?_, fun g hg => ⟨fun hk => ?_, (h.sr g hg).2⟩, h.turn.trans htu fun k hk hk2 => ?_, fun k hk => ?_⟩
  · rcases hf g hk with h1 | h1
    · exact h.so g hg h1
    · have := (h.out.lt g hg).2; omega
  · rcases hf g hk with h1 | h1
    · exact (h.sr g hg).1 h1
    · have := (h.row.lt g hg).2; omega
  · rcases h.feet k hk2 with h1 | h1
    · exact h1
    · omega
  · rcases hf k hk with h1 | h1
    · exact h.feet k h1
    · exact .inr (Nat.le_trans h.turn.size h1)
theorem FreeAt.more {w0 w w1 : World} {ty : TypeId} {T o : Nat} {cs : Array Value} {hv0 wv0 rv hv wv ov ov1 : Value} {rest : List Op3} {st : Tab2 × List Op3} {ol : List Op3} (h : FreeAt w0 w ty T o cs hv0 wv0 rv rest st hv wv ov) (ht : Turns (fun k => ov.ownBlock = some k) w w1)
    (hown : w1.ownsRow w0.heap.size 99 3 ov1 ol.length (flat ol)) (hap : ∀ g, ov1.ownBlock = some g → ov.ownBlock = some g ∨ w.heap.size ≤ g) : FreeAt w0 w1 ty T o cs hv0 wv0 rv rest (st.1, ol) hv wv ov1 := by
  refine ⟨h.tab.turn ht fun k hk e => h.so k e hk, hown, ht.own h.row fun g hg e => (h.sr g hg).2 e, fun g hg hk => ?_, fun g hg => ⟨(h.sr g hg).1, fun e => ?_⟩, h.turn.trans ht fun k hk e => ?_, h.feet⟩
  · rcases hap g hg with h1 | h1
    · exact h.so g h1 hk
    · have := (h.tab.foot_lt hk).2; omega
  · rcases hap g e with h1 | h1
    · exact (h.sr g hg).2 h1
    · have := (h.row.lt g hg).2; omega
  · have := (h.out.lt k e).1; omega
theorem grants_snoc {s : Tab2 × List Op3} {l : List Op3} {k : Nat} (hk : k < l.length) : grants s (l.take (k + 1)) = grant (grants s (l.take k)) (opAt l k) := by
  rw [take_snoc hk]
  unfold grants
  rw [List.foldl_append]
  rfl
end Go.Proofs.YtmjjiehnjghndaaGreat

namespace Go.Proofs.YtmjjiehnjghndaaGreat
open Go.RowKit

theorem grant_take (s : Tab2) (o : List Op3) (x : Op3) : grant (s, o) x = ((takeT s x).2, if (takeT s x).1 = true then o ++ [x] else o) := by
  unfold grant takeT
  split <;> rfl
theorem grant_locks {s : Tab2 × List Op3} {x : Op3} (h1 : ∀ y ∈ s.1.1, isLock y = true) (h2 : ∀ y ∈ s.1.2, isLock y = true) (hx : isLock x = true) : (∀ y ∈ (grant s x).1.1, isLock y = true) ∧ ∀ y ∈ (grant s x).1.2, isLock y = true := by
  unfold grant
  split
  · refine ⟨fun y hy => ?_, h2⟩
    rcases mem_holdL hy with rfl | hy
    · exact hx
    · exact h1 y hy
  · refine ⟨h1, fun y hy => ?_⟩
    rcases List.mem_append.1 hy with hy | hy
    · exact h2 y hy
    · rw [List.mem_singleton.1 hy]; exact hx
theorem grants_locks : ∀ (l : List Op3) (s : Tab2 × List Op3), (∀ y ∈ s.1.1, isLock y = true) → (∀ y ∈ s.1.2, isLock y = true) → (∀ y ∈ l, isLock y = true) → (∀ y ∈ (grants s l).1.1, isLock y = true) ∧ ∀ y ∈ (grants s l).1.2, isLock y = true := by
  intro l
  induction l with
  | nil => intro s h1 h2 _; exact ⟨h1, h2⟩
  | cons x r ih =>
    intro s h1 h2 h3
    obtain ⟨k1, k2⟩ := grant_locks h1 h2 (h3 x List.mem_cons_self)
    exact ih (grant s x) k1 k2 fun y hy => h3 y (List.mem_cons_of_mem _ hy)
/-- Memory while those that wait are gone over. -/
structure FreeP (w0 w : World) (ty : TypeId) (T o : Nat) (cs : Array Value) (hv0 wv0 rv : Value) (rest : List Op3) (st : Tab2 × List Op3) (hv wv ov : Value) : Prop where
  tab : TabAt w ty T o (put2 cs o hv wv) hv wv st.1
  out : w.ownsRow w0.heap.size 99 3 ov st.2.length (flat st.2)
  row : w.ownsRow (T + 1) 99 3 rv rest.length (flat rest)
  so : ∀ g, ov.ownBlock = some g → ¬ foot T hv wv g
  sr : ∀ g, rv.ownBlock = some g → ¬ foot T hv wv g ∧ ov.ownBlock ≠ some g
  turn : Turns (foot T hv0 wv0) w0 w
  feet : ∀ k, foot T hv wv k → foot T hv0 wv0 k ∨ w0.heap.size ≤ k
theorem FreeP.below {w0 w w1 : World} {ty : TypeId} {T o : Nat} {cs : Array Value} {hv0 wv0 rv hv wv ov : Value} {rest : List Op3} {st : Tab2 × List Op3} (h : FreeP w0 w ty T o cs hv0 wv0 rv rest st hv wv ov) (hb : Below w.heap.size w w1) : FreeP w0 w1 ty T o cs hv0 wv0 rv rest st hv wv ov :=
  ⟨h.tab.below hb, (Turns.of_below (F := fun _ => False) hb).own h.out fun _ _ hf => hf, (Turns.of_below (F := fun _ => False) hb).own h.row fun _ _ hf => hf, h.so, h.sr, h.turn.then_below hb, h.feet⟩
theorem FreeP.step {w0 w w1 : World} {ty : TypeId} {T o : Nat} {cs : Array Value} {hv0 wv0 rv hv wv ov : Value} {rest : List Op3} {st : Tab2 × List Op3} {s2 : Tab2} (h : FreeP w0 w ty T o cs hv0 wv0 rv rest st hv wv ov) (hs : TabStep w w1 ty T o (put2 cs o hv wv) hv wv s2) : ∃ hv1 wv1, FreeP w0 w1 ty T o cs hv0 wv0 rv rest (s2, st.2) hv1 wv1 ov := by
  obtain ⟨hv1, wv1, ht, htu, hf⟩ := hs
  rw [put2_put2] at ht
  refine ⟨hv1, wv1, ht, htu.own h.out fun g hg => h.so g hg, htu.own h.row fun g hg => (h.sr g hg).1, fun g hg hk => ?_, fun g hg => ⟨fun hk => ?_, (h.sr g hg).2⟩, h.turn.trans htu fun k hk hk2 => ?_, fun k hk => ?_⟩
  · rcases hf g hk with h1 | h1
    · exact h.so g hg h1
    · have := (h.out.lt g hg).2; omega
  · rcases hf g hk with h1 | h1
    · exact (h.sr g hg).1 h1
    · have := (h.row.lt g hg).2; omega
  · rcases h.feet k hk2 with h1 | h1
    · exact h1
    · omega
  · rcases hf k hk with h1 | h1
    · exact h.feet k h1
    · exact .inr (Nat.le_trans h.turn.size h1)
theorem FreeP.more {w0 w w1 : World} {ty : TypeId} {T o : Nat} {cs : Array Value} {hv0 wv0 rv hv wv ov ov1 : Value} {rest : List Op3} {st : Tab2 × List Op3} {ol : List Op3} (h : FreeP w0 w ty T o cs hv0 wv0 rv rest st hv wv ov) (ht : Turns (fun k => ov.ownBlock = some k) w w1)
    (hown : w1.ownsRow w0.heap.size 99 3 ov1 ol.length (flat ol)) (hap : ∀ g, ov1.ownBlock = some g → ov.ownBlock = some g ∨ w.heap.size ≤ g) : FreeP w0 w1 ty T o cs hv0 wv0 rv rest (st.1, ol) hv wv ov1 := by
  refine ⟨h.tab.turn ht fun k hk e => h.so k e hk, hown, ht.own h.row fun g hg e => (h.sr g hg).2 e, fun g hg hk => ?_, fun g hg => ⟨(h.sr g hg).1, fun e => ?_⟩, h.turn.trans ht fun k hk e => ?_, h.feet⟩
  · rcases hap g hg with h1 | h1
    · exact h.so g h1 hk
    · have := (h.tab.foot_lt hk).2; omega
  · rcases hap g e with h1 | h1
    · exact (h.sr g hg).2 h1
    · have := (h.row.lt g hg).2; omega
  · have := (h.out.lt k e).1; omega
/-- Those that wait are none, where their row has turned. -/
theorem tab_none2 {w w1 : World} {ty : TypeId} {T o : Nat} {cs : Array Value} {hv wv : Value} {s : Tab2} (h : TabAt w ty T o cs hv wv s) (ht : Turns (fun k => wv.ownBlock = some k) w w1) : TabAt (w1.setCell ⟨T, o + 1, none⟩ (.slice none 0 0)) ty T o (put2 cs o hv (.slice none 0 0)) hv (.slice none 0 0) (s.1, []) ∧ Turns (foot T hv wv) w (w1.setCell ⟨T, o + 1, none⟩ (.slice none 0 0)) := by
  have hl := h.lt
  have hT : w1.heap[T]? = some (.cells cs ty (0, 0)) := (ht.block T hl (fun e => by have := (h.ow.lt T e).1; omega)).trans h.blk
  refine ⟨⟨?_, at_put0 h.room, at_put1 h.room, ownsRow_setCell_below (ht.own h.oh fun g hg e => h.apart g hg e) (by show T < T + 1; omega) _, World.ownsRow_nil _ _ _ _, fun g _ h2 => by simp [Value.ownBlock] at h2⟩, (ht.mono fun k _ e => .inr (.inr e)).setCell (.inl (.inl rfl)) _⟩
  rw [block_set hT, put2_1 _ h.at0]
/-- Free has cut both rows, and none wait. -/
theorem FreeP.start {w0 w w1 : World} {ty : TypeId} {T o : Nat} {cs : Array Value} {hv0 wv0 hv wv rv : Value} {rest : List Op3} {s s0 : Tab2} (h0 : TabAt w0 ty T o cs hv0 wv0 s0) (h : TabAt w ty T o (put2 cs o hv wv) hv wv s) (hturn : Turns (foot T hv0 wv0) w0 w) (hfeet : ∀ k, foot T hv wv k → foot T hv0 wv0 k ∨ w0.heap.size ≤ k) (ht : Turns (fun k => wv.ownBlock = some k) w w1)
    (hrow : w1.ownsRow (T + 1) 99 3 rv rest.length (flat rest)) (hrv : ∀ g, rv.ownBlock = some g → wv.ownBlock = some g) : FreeP w0 (w1.setCell ⟨T, o + 1, none⟩ (.slice none 0 0)) ty T o cs hv0 wv0 rv rest ((s.1, []), []) hv (.slice none 0 0) (.slice none 0 0) := by
  obtain ⟨k1, k2⟩ := tab_none2 h ht
  rw [put2_put2] at k1
  have hT0 := h0.lt
  refine ⟨k1, World.ownsRow_nil _ _ _ _, ownsRow_setCell_below hrow (by show T < T + 1; omega) _, fun g hg => by simp [Value.ownBlock] at hg, fun g hg => ⟨fun hk => ?_, by simp [Value.ownBlock]⟩, hturn.trans k2 fun k hk hk2 => ?_, fun k hk => ?_⟩
  · rcases hk with hk | hk | hk
    · have := (hrow.lt g hg).1; omega
    · exact h.apart g hk (hrv g hg)
    · simp [Value.ownBlock] at hk
  · rcases hfeet k hk2 with h1 | h1
    · exact h1
    · omega
  · rcases hk with hk | hk | hk
    · exact hfeet k (.inl hk)
    · exact hfeet k (.inr (.inl hk))
    · simp [Value.ownBlock] at hk
end Go.Proofs.YtmjjiehnjghndaaGreat
