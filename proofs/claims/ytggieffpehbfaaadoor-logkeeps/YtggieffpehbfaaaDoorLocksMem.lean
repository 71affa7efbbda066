/-
  PROVED HERE: how a table of locks (two lists in rows of its own) lies in memory, and what of it stands when only some blocks have turned.
  Conditions: none.
  (Of these, what the claim wants: the rest was left out.)
-/
import Derived.Test.YtggieffpehbfaaaDoorLocksPlain
import Derived.Test.YtggieffpehbfaaaDoorOddPlain
import Derived.Test.YtggieffpehbfaaaDoorOps
import Derived.Test.YtggieffpehbfaaaDoorRegion
import Derived.OwnWalk
import Derived.Laws.Rows
namespace Go.Proofs.YtggieffpehbfaaaDoor
open Go.RowKit

/-- Of the blocks that there were, only those of F have turned. -/
structure Turns (F : Nat → Prop) (w w' : World) : Prop where
  os : w'.os = w.os
  tape : w'.tape = w.tape
  output : w'.output = w.output
  size : w.heap.size ≤ w'.heap.size
  block : ∀ k, k < w.heap.size → ¬ F k → w'.heap[k]? = w.heap[k]?
theorem Turns.refl (F : Nat → Prop) (w : World) : Turns F w w := ⟨rfl, rfl, rfl, Nat.le_refl _, fun _ _ _ => rfl⟩
theorem Turns.trans {F G : Nat → Prop} {w w1 w2 : World} (h : Turns F w w1) (k : Turns G w1 w2) (hG : ∀ j, j < w.heap.size → G j → F j) : Turns F w w2 :=
  ⟨k.os.trans h.os, k.tape.trans h.tape, k.output.trans h.output, Nat.le_trans h.size k.size, fun j h1 h2 => (k.block j (Nat.lt_of_lt_of_le h1 h.size) (fun hg => h2 (hG j h1 hg))).trans (h.block j h1 h2)⟩
theorem Turns.of_below {F : Nat → Prop} {w w' : World} (h : Below w.heap.size w w') : Turns F w w' := ⟨h.os, h.tape, h.output, h.size, fun k hk _ => h.block k hk⟩
theorem Turns.below {F : Nat → Prop} {B : Nat} {w w' : World} (h : Turns F w w') (hB : B ≤ w.heap.size) (hF : ∀ k, k < B → ¬ F k) : Below B w w' := ⟨h.os, h.tape, h.output, h.size, fun k hk => h.block k (Nat.lt_of_lt_of_le hk hB) (hF k hk)⟩
theorem Turns.then_below {F : Nat → Prop} {w w1 w2 : World} (h : Turns F w w1) (k : Below w1.heap.size w1 w2) : Turns F w w2 := h.trans (Turns.of_below (F := fun _ => False) k) fun _ _ hf => hf.elim
theorem Turns.drew {F : Nat → Prop} {w w1 : World} (h : Turns F w w1) : Turns F w w1.drew := ⟨h.os, h.tape, h.output, h.size, h.block⟩
theorem Turns.alloc {F : Nat → Prop} {w w1 : World} (h : Turns F w w1) (o : Obj) : Turns F w (w1.alloc o) := h.then_below ((Below.refl _ w1).alloc (Nat.le_refl _) o)
theorem Turns.setCell {F : Nat → Prop} {w w1 : World} (h : Turns F w w1) {p : Addr} (hp : F p.block ∨ w.heap.size ≤ p.block) (u : Value) : Turns F w (w1.setCell p u) := by
  refine ⟨h.os, h.tape, h.output, by simpa using h.size, fun k h1 h2 => ?_⟩
  have hne : k ≠ p.block := by
    intro e
    rcases hp with hp | hp
    · exact h2 (e ▸ hp)
    · omega
  exact (Below.heap_setCell w1 p u k hne).trans (h.block k h1 h2)
theorem Turns.grown {F : Nat → Prop} {w w1 w2 : World} {row : Option Nat} (h : Turns F w w1) (hg : w1.grownBy w2 row) (hr : ∀ k, row = some k → F k ∨ w.heap.size ≤ k) : Turns F w w2 :=
  ⟨hg.os.trans h.os, hg.tape.trans h.tape, hg.output.trans h.output, Nat.le_trans h.size hg.size, fun k h1 h2 => (hg.block k (Nat.lt_of_lt_of_le h1 h.size) (fun e => by
    rcases hr k e.symm with hp | hp
    · exact h2 hp
    · omega)).trans (h.block k h1 h2)⟩
theorem Turns.mono {F G : Nat → Prop} {w w1 : World} (h : Turns F w w1) (hF : ∀ k, k < w.heap.size → F k → G k) : Turns G w w1 := ⟨h.os, h.tape, h.output, h.size, fun k h1 h2 => h.block k h1 fun hf => h2 (hF k h1 hf)⟩
theorem Turns.cell {F : Nat → Prop} {w w1 : World} (h : Turns F w w1) {p : Addr} (hp : p.block < w.heap.size) (hF : ¬ F p.block) : w1.cell? p = w.cell? p := World.cell?_of_block (w := w) (h.block p.block hp hF)
/-- What is owned stays owned where its own block does not turn. -/
theorem Turns.own {F : Nat → Prop} {w w1 : World} {base e size n : Nat} {v : Value} {xs : List Value} (h : Turns F w w1) (ho : w.ownsRow base e size v n xs) (hF : ∀ g, v.ownBlock = some g → ¬ F g) : w1.ownsRow base e size v n xs := by
  have h' := ho
  obtain ⟨hl, hd | ⟨g, cap, cur, hv, hbg, hg, hn, hm, hsz, htk⟩⟩ := ho
  · exact ⟨hl, .inl hd⟩
  · refine ⟨hl, .inr ⟨g, cap, cur, hv, hbg, ?_, hn, hm, hsz, htk⟩⟩
    rw [h.block g (h'.lt g (by rw [hv]; rfl)).2 (hF g (by rw [hv]; rfl))]; exact hg
theorem isOps_row {w : World} {base e n : Nat} {v : Value} {l : List Op3} (h : w.ownsRow base e 3 v n (flat l)) (hl : l.length = n) : IsOps w v l := by
  have h' := h
  obtain ⟨hx, ⟨hv, hd⟩ | ⟨g, cap, cur, hv, hb, hg, hn, hm, hsz, htk⟩⟩ := h'
  · have : l = [] := List.length_eq_zero_iff.1 (by omega)
    subst this
    rw [hv]
    exact ⟨none, 0, 0, 0, rfl, fun h => absurd h (by simp), fun _ => ⟨rfl, rfl⟩, .inr rfl, fun i hi => by simp at hi⟩
  · refine ⟨some ⟨g, 0, none⟩, g, 0, cap, by rw [hl]; exact hv, fun _ => rfl, fun h => (by simp at h), .inl (h.lt g (by rw [hv]; rfl)).2, opsAt_of fun j u hj => ?_⟩
    have := h.cells (g := g) (by rw [hv]; rfl) j u hj
    rw [Addr.add_lit] at this
    exact this
theorem own_slice3 {w : World} {base e size n : Nat} {v : Value} {xs : List Value} (h : w.ownsRow base e size v n xs) : ∃ ad c, v = .slice ad n c ∧ (0 < n → ∃ g, ad = some ⟨g, 0, none⟩ ∧ base ≤ g ∧ g < w.heap.size ∧ ∀ k, w.frozen? ⟨g, k, none⟩ = false) := by
  have h' := h
  obtain ⟨_, ⟨hv, h0⟩ | ⟨g, c, cur, hv, hb, hg, _⟩⟩ := h
  · exact ⟨none, 0, by rw [hv, h0], fun hp => absurd hp (by omega)⟩
  · exact ⟨_, c, hv, fun _ => ⟨g, rfl, hb, (h'.lt g (by rw [hv]; rfl)).2, fun k => by simp [World.frozen?, hg]⟩⟩
/-- The blocks of a table. -/
def foot (T : Nat) (hv wv : Value) (k : Nat) : Prop := k = T ∨ hv.ownBlock = some k ∨ wv.ownBlock = some k
section
variable {w w1 : World} {F : Nat → Prop} {ty : TypeId} {T o : Nat} {cs : Array Value} {hv wv v : Value} {s : Tab2}
end
end Go.Proofs.YtggieffpehbfaaaDoor
