/-
  PROVED HERE: package locks' table keeps what it is asked by one who only asks (LocksQ): New, Ask, For (and Held) answer as the document's table on lists, over a table in memory.
  Conditions: the lists are short.
-/
import Derived.Test.YtjaeaanpbdmfgaeDoorLockFor
import Derived.Lib.SliceRun
namespace Go.Proofs.YtjaeaanpbdmfgaeDoor
open Go.RowKit

set_option maxHeartbeats 2000000 in
set_option maxRecDepth 100000 in
theorem clone_locks (l : List Op3) (b cap : Nat) (w : World) (hl : l.length ≤ 400) (hops : OpsAt w b 0 l) :
    Calls Tryd.prog 44 #[.slice (some ⟨b, 0, none⟩) l.length cap] w fun e w' => ∃ v', e = .returned v' ∧ IsOps w' v' l ∧ Below w.heap.size w w' := by
  obtain ⟨i0, hi, hz0, hs0, hy0⟩ := info_parts infoLock
  have HI : Hid (Tryd.prog.info? 25 = some i0 ∧ i0.zero = some (.agg #[.int .i64 0, .int .i64 0, .int .i64 0]) ∧ i0.size = 3 ∧ i0.bytes = 24) := ⟨hi, hz0, hs0, hy0⟩
  clear hi hz0 hs0 hy0
  have HS : Hid (∀ j u, (flat l)[j]? = some u → w.cell? ⟨b, 0 + j, none⟩ = some u) := hops.flat
  clear hops
  have hq : ∀ w, (binOp .eql 22 (.slice (some ⟨b, 0, none⟩) l.length cap) (.slice none 0 0)).run Tryd.prog w = .ok (.bool false) w := fun w => Lib.run_eql_slice_nil w _ _ _ _ _ _ _ Tryd.underlying22
  go_enter Tryd.func44, Tryd.ntmps44
  go_wp2_with (at_builtin; refine wpList_append_own _ rfl (.tmp 5) (.tmp 6) 22 rfl w.heap.size 25 i0 (.agg #[.int .i64 0, .int .i64 0, .int .i64 0]) 3 24 Tryd.underlying22 HI.out.1 HI.out.2.1 HI.out.2.2.1 HI.out.2.2.2 rfl (by decide) (.slice (some ⟨w.heap.size, 0, none⟩) 0 0) 0 [] rfl (World.ownsRow_made w #[] 0 (Nat.le_refl _) (Nat.zero_le _) rfl) ⟨b, 0, none⟩ l.length cap (flat l) rfl (flat_length l) (fun j u hj => by rw [Addr.add_lit]; have h1 := HS.out j u hj; rw [World.cell?_alloc_lt _ _ _ (World.block_lt_of_cell? w _ h1)]; exact h1) (flat_one l) (by unfold maxLen; omega) (by omega) (by simp) ?_; intro v1 w1 hown1 hgr1 hnil1)
  go_ret
  exact ⟨_, rfl, isOps_row (by simpa using hown1) rfl, ((Below.refl _ w).alloc (Nat.le_refl _) _).grown hgr1 (by simp) (by intro k hk; simp [Value.ownBlock] at hk; omega)⟩
theorem clone_none (w : World) :
    Calls Tryd.prog 44 #[.slice none 0 0] w fun e w' => ∃ v', e = .returned v' ∧ IsOps w' v' [] ∧ Below w.heap.size w w' := by
  have hq : ∀ w, (binOp .eql 22 (.slice none 0 0) (.slice none 0 0)).run Tryd.prog w = .ok (.bool true) w := fun w => Lib.run_eql_slice_nil w _ _ _ _ _ _ _ Tryd.underlying22
  go_enter Tryd.func44, Tryd.ntmps44
  go_wp2
  go_ret
  exact ⟨_, rfl, ⟨none, 0, 0, 0, rfl, fun h => absurd h (by simp), fun _ => ⟨rfl, rfl⟩, .inr rfl, fun i hi => by simp at hi⟩, Below.refl _ _⟩
theorem clone_row {w : World} {base n : Nat} {v : Value} {l : List Op3} (h : w.ownsRow base 25 3 v n (flat l)) (hl : l.length = n) (hn : n ≤ 400) : Calls Tryd.prog 44 #[v] w fun e w' => ∃ v', e = .returned v' ∧ IsOps w' v' l ∧ Below w.heap.size w w' := by
  subst hl
  have hI := isOps_row h rfl
  obtain ⟨hx, ⟨hv, hd⟩ | ⟨g, cap, cur, hv, hb, hg, hnn, hm, hsz, htk⟩⟩ := h
  · have : l = [] := List.length_eq_zero_iff.1 hd
    subst this
    rw [hv]
    exact clone_none w
  · subst hv
    refine clone_locks l g cap w hn ?_
    obtain ⟨ad, b, off, cap2, hv, ha, -, -, hops⟩ := hI
    simp only [Value.slice.injEq, true_and] at hv
    rcases Nat.eq_zero_or_pos l.length with h0 | h0
    · intro i hi; omega
    · have := ha h0
      rw [← hv.1] at this
      simp only [Option.some.injEq, Addr.mk.injEq, and_true] at this
      rw [this.1, this.2]
      exact hops
theorem pHeld_any (T : Nat) (cs : Array Value) (hv wv : Value) (s : Tab2) (w : World) (h : TabAt w 62 T 0 cs hv wv s) (hl : s.1.length ≤ 400) :
    Calls Tryd.prog 18 #[.pointer (some ⟨T, 0, none⟩)] w fun e w' => ∃ v', e = .returned v' ∧ IsOps w' v' s.1 ∧ Below w.heap.size w w' := by
  have c0 := h.c0
  have HC := hid_of (clone_row h.oh rfl hl)
  obtain ⟨ad, c, rfl, -⟩ := own_slice3 h.oh
  clear h
  go_enter Tryd.func18, Tryd.ntmps18
  go_wp2_with fail
  refine HC.out.mono ?_
  rintro e w1 ⟨v1, rfl, h1, hb1⟩
  obtain ⟨ad1, n1, c1, rfl⟩ : ∃ ad n c, v1 = .slice ad n c := by obtain ⟨ad, _, _, cap, hv, _⟩ := h1; exact ⟨ad, _, cap, hv⟩
  go_wp2_with fail
  go_ret
  exact ⟨_, rfl, h1, hb1⟩
theorem pNew_any (w : World) : Calls Tryd.prog 6 #[] w fun e w' => e = .returned (.pointer (some ⟨w.heap.size, 0, none⟩)) ∧ TabAt w' 62 w.heap.size 0 #[.slice none 0 0, .slice none 0 0] (.slice none 0 0) (.slice none 0 0) ([], []) ∧ Below w.heap.size w w' := by
  go_enter Tryd.func6, Tryd.ntmps6
  go_wp2
  go_ret
  exact ⟨rfl, ⟨heap_alloc_new w _, rfl, rfl, World.ownsRow_nil _ _ _ _, World.ownsRow_nil _ _ _ _, fun g h _ => by simp [Value.ownBlock] at h⟩, (Below.refl _ w).alloc (Nat.le_refl _) _⟩
/-- A table of package locks in memory. -/
def PTab (w : World) (T : Nat) (F : Nat → Prop) (s : Tab2) : Prop := TabOk s ∧ ∃ hv wv, TabAt w 62 T 0 #[hv, wv] hv wv s ∧ ∀ k, F k ↔ foot T hv wv k
theorem PTab.of_step {w w' : World} {T : Nat} {F : Nat → Prop} {hv wv : Value} {s2 : Tab2} (hF : ∀ k, F k ↔ foot T hv wv k) (hst : TabStep w w' 62 T 0 #[hv, wv] hv wv s2) (hok : TabOk s2) : ∃ F', PTab w' T F' s2 ∧ Turns F w w' ∧ ∀ k, F' k → F k ∨ w.heap.size ≤ k := by
  obtain ⟨hv', wv', h1, h2, h3⟩ := hst
  refine ⟨foot T hv' wv', ⟨hok, hv', wv', h1, fun _ => Iff.rfl⟩, h2.mono fun k _ hk => (hF k).2 hk, fun k hk => ?_⟩
  rcases h3 k hk with h | h
  · exact .inl ((hF k).2 h)
  · exact .inr h
theorem locksQ : LocksQ PTab where
  stays := fun {w w' T F s} G h ht hG => by
    obtain ⟨hok, hv, wv, h1, h2⟩ := h
    exact ⟨hok, hv, wv, h1.turn ht fun k hk => hG k ((h2 k).2 hk), h2⟩
  lt := fun {w T F s} h k hk => by
    obtain ⟨hok, hv, wv, h1, h2⟩ := h
    exact (h1.foot_lt ((h2 k).1 hk)).2
  new := fun w => (pNew_any w).mono fun _ _ ⟨h1, h2, h3⟩ => ⟨w.heap.size, foot w.heap.size (.slice none 0 0) (.slice none 0 0), h1, ⟨tab_nil, _, _, h2, fun _ => Iff.rfl⟩, h3, fun k hk => by
    rcases hk with hk | hk | hk
    · omega
    · simp [Value.ownBlock] at hk
    · simp [Value.ownBlock] at hk⟩
  ask := fun w T F s x h hl1 hl2 => by
    obtain ⟨hok, hv, wv, h1, h2⟩ := h
    exact (pAsk_any T _ hv wv s x w h1 (by omega) (by omega) hok.locks.1 hok.locks.2).mono fun _ _ ⟨he, hst⟩ => ⟨he, PTab.of_step h2 hst (ask_ok hok x)⟩
  whom := fun w T F s x h hl1 hl2 => by
    obtain ⟨hok, hv, wv, h1, h2⟩ := h
    exact pFor_any T _ hv wv s x w h1 (by omega) (by omega) hok.locks.1 hok.locks.2
end Go.Proofs.YtjaeaanpbdmfgaeDoor
