/-
  PROVED HERE: package locks' table keeps what it is asked by one who only asks (LocksQ): New, Ask, For (and Held) answer as the document's table on lists, over a table in memory.
  Conditions: the lists are short.
-/
import Derived.Test.YtjaeaanpbdmfgaeGreatDoorLockFor
import Derived.Lib.SliceRun
namespace Go.Proofs.YtjaeaanpbdmfgaeGreatDoor
open Go.RowKit

theorem pNew_any (w : World) : Calls Tryz.prog 25 #[] w fun e w' => e = .returned (.pointer (some ⟨w.heap.size, 0, none⟩)) ∧ TabAt w' 86 w.heap.size 0 #[.slice none 0 0, .slice none 0 0] (.slice none 0 0) (.slice none 0 0) ([], []) ∧ Below w.heap.size w w' := by
  go_enter Tryz.func25, Tryz.ntmps25
  go_wp2
  go_ret
  exact ⟨rfl, ⟨heap_alloc_new w _, rfl, rfl, World.ownsRow_nil _ _ _ _, World.ownsRow_nil _ _ _ _, fun g h _ => by simp [Value.ownBlock] at h⟩, (Below.refl _ w).alloc (Nat.le_refl _) _⟩
/-- A table of package locks in memory. -/
def PTab (w : World) (T : Nat) (F : Nat → Prop) (s : Tab2) : Prop := TabOk s ∧ ∃ hv wv, TabAt w 86 T 0 #[hv, wv] hv wv s ∧ ∀ k, F k ↔ foot T hv wv k
theorem PTab.of_step {w w' : World} {T : Nat} {F : Nat → Prop} {hv wv : Value} {s2 : Tab2} (hF : ∀ k, F k ↔ foot T hv wv k) (hst : TabStep w w' 86 T 0 #[hv, wv] hv wv s2) (hok : TabOk s2) : ∃ F', PTab w' T F' s2 ∧ Turns F w w' ∧ ∀ k, F' k → F k ∨ w.heap.size ≤ k := by
  obtain ⟨hv', wv', h1, h2, h3⟩ := hst
  refine ⟨foot T hv' wv', ⟨hok, hv', wv', h1, fun _ => Iff.rfl⟩, h2.mono fun k _ hk => (hF k).2 hk, fun k hk => ?_⟩
  rcases h3 k hk with h | h
  · exact .inl ((hF k).2 h)
  · exact .inr h
theorem locksQ : LocksQ PTab where
  stays := fun {w w' T F s} G h ht hG => by
    obtain ⟨hok, hv, wv, h1, h2⟩ := h
    exact ⟨hok, hv, wv, h1.turn ht fun k hk => hG k ((h2 k).2 hk), h2⟩
  lt := fun {w T F s} h k hk => by
    obtain ⟨hok, hv, wv, h1, h2⟩ := h
    exact (h1.foot_lt ((h2 k).1 hk)).2
  new := fun w => (pNew_any w).mono fun _ _ ⟨h1, h2, h3⟩ => ⟨w.heap.size, foot w.heap.size (.slice none 0 0) (.slice none 0 0), h1, ⟨tab_nil, _, _, h2, fun _ => Iff.rfl⟩, h3, fun k hk => by
    rcases hk with hk | hk | hk
    · omega
    · simp [Value.ownBlock] at hk
    · simp [Value.ownBlock] at hk⟩
  ask := fun w T F s x h hl1 hl2 => by
    obtain ⟨hok, hv, wv, h1, h2⟩ := h
    exact (pAsk_any T _ hv wv s x w h1 (by omega) (by omega) hok.locks.1 hok.locks.2).mono fun _ _ ⟨he, hst⟩ => ⟨he, PTab.of_step h2 hst (ask_ok hok x)⟩
  whom := fun w T F s x h hl1 hl2 => by
    obtain ⟨hok, hv, wv, h1, h2⟩ := h
    exact pFor_any T _ hv wv s x w h1 (by omega) (by omega) hok.locks.1 hok.locks.2
end Go.Proofs.YtjaeaanpbdmfgaeGreatDoor
