/-
  PROVED HERE: laneref1.Table's method Free, over a table in memory: who is held by that. Of the blocks that there were, only the table's own turn.
  Conditions: the lists are short.
-/
import Derived.Test.YtnddihhekeecnadRefLocks3
namespace Go.Proofs.Ytnddihhekeecnad
open Go.RowKit

/-- Memory while those that wait are gone over: the table, those that have come to be held, those that are still to come. -/
structure FreeAt (w0 w : World) (ty : TypeId) (T o : Nat) (cs : Array Value) (hv0 wv0 rv : Value) (rest : List Op3) (st : Tab2 × List Op3) (hv wv ov : Value) : Prop where
  tab : TabAt w ty T o (put2 cs o hv wv) hv wv st.1
  out : w.ownsRow w0.heap.size 59 3 ov st.2.length (flat st.2)
  row : w.ownsRow w0.heap.size 59 3 rv rest.length (flat rest)
  so : ∀ g, ov.ownBlock = some g → ¬ foot T hv wv g
  sr : ∀ g, rv.ownBlock = some g → ¬ foot T hv wv g ∧ ov.ownBlock ≠ some g
  turn : Turns (foot T hv0 wv0) w0 w
  feet : ∀ k, foot T hv wv k → foot T hv0 wv0 k ∨ w0.heap.size ≤ k
theorem FreeAt.below {w0 w w1 : World} {ty : TypeId} {T o : Nat} {cs : Array Value} {hv0 wv0 rv hv wv ov : Value} {rest : List Op3} {st : Tab2 × List Op3} (h : FreeAt w0 w ty T o cs hv0 wv0 rv rest st hv wv ov) (hb : Below w.heap.size w w1) : FreeAt w0 w1 ty T o cs hv0 wv0 rv rest st hv wv ov :=
  ⟨h.tab.below hb, (Turns.of_below (F := fun _ => False) hb).own h.out fun _ _ hf => hf, (Turns.of_below (F := fun _ => False) hb).own h.row fun _ _ hf => hf, h.so, h.sr, h.turn.then_below hb, h.feet⟩
theorem FreeAt.step {w0 w w1 : World} {ty : TypeId} {T o : Nat} {cs : Array Value} {hv0 wv0 rv hv wv ov : Value} {rest : List Op3} {st : Tab2 × List Op3} {s2 : Tab2} (h : FreeAt w0 w ty T o cs hv0 wv0 rv rest st hv wv ov) (hs : TabStep w w1 ty T o (put2 cs o hv wv) hv wv s2) : ∃ hv1 wv1, FreeAt w0 w1 ty T o cs hv0 wv0 rv rest (s2, st.2) hv1 wv1 ov := by
  obtain ⟨hv1, wv1, ht, htu, hf⟩ := hs
  rw [put2_put2] at ht
  refine ⟨hv1, wv1, ht, htu.own h.out fun g hg => h.so g hg, htu.own h.row fun g hg => (h.sr g hg).1, fun g hg hk => ?_, fun g hg => ⟨fun hk => ?_, (h.sr g hg).2⟩, h.turn.trans htu fun k hk hk2 => ?_, fun k hk => ?_⟩
  · rcases hf g hk with h1 | h1
    · exact h.so g hg h1
    · have := (h.out.lt g hg).2; omega
  · rcases hf g hk with h1 | h1
    · exact (h.sr g hg).1 h1
    · have := (h.row.lt g hg).2; omega
  · rcases h.feet k hk2 with h1 | h1
    · exact h1
    · omega
  · rcases hf k hk with h1 | h1
    · exact h.feet k h1
    · exact .inr (Nat.le_trans h.turn.size h1)
theorem FreeAt.more {w0 w w1 : World} {ty : TypeId} {T o : Nat} {cs : Array Value} {hv0 wv0 rv hv wv ov ov1 : Value} {rest : List Op3} {st : Tab2 × List Op3} {ol : List Op3} (h : FreeAt w0 w ty T o cs hv0 wv0 rv rest st hv wv ov) (ht : Turns (fun k => ov.ownBlock = some k) w w1)
    (hown : w1.ownsRow w0.heap.size 59 3 ov1 ol.length (flat ol)) (hap : ∀ g, ov1.ownBlock = some g → ov.ownBlock = some g ∨ w.heap.size ≤ g) : FreeAt w0 w1 ty T o cs hv0 wv0 rv rest (st.1, ol) hv wv ov1 := by
  refine ⟨h.tab.turn ht fun k hk e => h.so k e hk, hown, ht.own h.row fun g hg e => (h.sr g hg).2 e, fun g hg hk => ?_, fun g hg => ⟨(h.sr g hg).1, fun e => ?_⟩, h.turn.trans ht fun k hk e => ?_, h.feet⟩
  · rcases hap g hg with h1 | h1
    · exact h.so g h1 hk
    · have := (h.tab.foot_lt hk).2; omega
  · rcases hap g e with h1 | h1
    · exact (h.sr g hg).2 h1
    · have := (h.row.lt g hg).2; omega
  · have := (h.out.lt k e).1; omega
theorem grants_snoc {s : Tab2 × List Op3} {l : List Op3} {k : Nat} (hk : k < l.length) : grants s (l.take (k + 1)) = grant (grants s (l.take k)) (opAt l k) := by
  rw [take_snoc hk]
  unfold grants
  rw [List.foldl_append]
  rfl
theorem grant_yes {s : Tab2 × List Op3} {x : Op3} (h1 : clearL s.1.1 x = true) (h2 : clearL s.1.2 x = true) : grant s x = ((holdL s.1.1 x, s.1.2), s.2 ++ [x]) := by
  unfold grant
  rw [if_pos (by rw [h1, h2]; rfl)]
theorem grant_no {s : Tab2 × List Op3} {x : Op3} (h : (clearL s.1.1 x && clearL s.1.2 x) = false) : grant s x = ((s.1.1, s.1.2 ++ [x]), s.2) := by
  unfold grant
  rw [if_neg (by rw [h]; decide)]
/-- What Free leaves. -/
def Freed (w w' : World) (ty : TypeId) (T o : Nat) (cs : Array Value) (hv wv v' : Value) (r : Tab2 × List Op3) : Prop := ∃ hv' wv', w'.ownsRow w.heap.size 59 3 v' r.2.length (flat r.2) ∧ TabAt w' ty T o (put2 cs o hv' wv') hv' wv' r.1 ∧ (∀ g, v'.ownBlock = some g → ¬ foot T hv' wv' g) ∧ Turns (foot T hv wv) w w' ∧ ∀ k, foot T hv' wv' k → foot T hv wv k ∨ w.heap.size ≤ k
end Go.Proofs.Ytnddihhekeecnad
