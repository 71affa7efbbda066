/-
  PROVED HERE: package locks' table keeps what it is asked (LocksC): New, Ask, For, Free, Held and Waits answer as the document's table on lists, over a table in memory.
  Conditions: the lists are short.
-/
import Derived.Test.YtjaeaanpbdmfgaeDoorLocksP0
import Derived.Test.YtjaeaanpbdmfgaeDoorLockFree
namespace Go.Proofs.YtjaeaanpbdmfgaeDoor
open Go.RowKit

theorem pWaits_any (T : Nat) (cs : Array Value) (hv wv : Value) (s : Tab2) (w : World) (h : TabAt w 62 T 0 cs hv wv s) (hl : s.2.length ≤ 400) :
    Calls Tryd.prog 19 #[.pointer (some ⟨T, 0, none⟩)] w fun e w' => ∃ v', e = .returned v' ∧ IsOps w' v' s.2 ∧ Below w.heap.size w w' := by
  have c1 := h.c1
  have HC := hid_of (clone_row h.ow rfl hl)
  obtain ⟨ad, c, rfl, -⟩ := own_slice3 h.ow
  clear h
  simp only [Nat.zero_add] at c1
  go_enter Tryd.func19, Tryd.ntmps19
  go_wp2_with fail
  refine HC.out.mono ?_
  rintro e w1 ⟨v1, rfl, h1, hb1⟩
  obtain ⟨ad1, n1, c1, rfl⟩ : ∃ ad n c, v1 = .slice ad n c := by obtain ⟨ad, _, _, cap, hv, _⟩ := h1; exact ⟨ad, _, cap, hv⟩
  go_wp2_with fail
  go_ret
  exact ⟨_, rfl, h1, hb1⟩
theorem freeU_ok {s : Tab2} (h : TabOk s) (t : Int) : TabOk (freeU s t).2 := by
  unfold freeU
  split
  · exact free_ok h t
  · exact h
theorem locksC : LocksC PTab where
  stays := fun {w w' T F s} G h ht hG => by
    obtain ⟨hok, hv, wv, h1, h2⟩ := h
    exact ⟨hok, hv, wv, h1.turn ht fun k hk => hG k ((h2 k).2 hk), h2⟩
  lt := fun {w T F s} h k hk => by
    obtain ⟨hok, hv, wv, h1, h2⟩ := h
    exact (h1.foot_lt ((h2 k).1 hk)).2
  new := fun w => (pNew_any w).mono fun _ _ ⟨h1, h2, h3⟩ => ⟨w.heap.size, foot w.heap.size (.slice none 0 0) (.slice none 0 0), h1, ⟨tab_nil, _, _, h2, fun _ => Iff.rfl⟩, h3, fun k hk => by
    rcases hk with hk | hk | hk
    · omega
    · simp [Value.ownBlock] at hk
    · simp [Value.ownBlock] at hk⟩
  ask := fun w T F s x h hl1 hl2 => by
    obtain ⟨hok, hv, wv, h1, h2⟩ := h
    exact (pAsk_any T _ hv wv s x w h1 (by omega) (by omega) hok.locks.1 hok.locks.2).mono fun _ _ ⟨he, hst⟩ => ⟨he, PTab.of_step h2 hst (ask_ok hok x)⟩
  free := fun w T F s t h hl1 hl2 => by
    obtain ⟨hok, hv, wv, h1, h2⟩ := h
    refine (pFree_any T _ hv wv s t w h1 hl1 hl2 hok.locks.1 hok.locks.2).mono fun _ _ ⟨v', he, hi, hst⟩ => ?_
    obtain ⟨F', k1, k2, k3⟩ := PTab.of_step h2 hst (freeU_ok hok t)
    exact ⟨v', F', he, hi, k1, k2, k3⟩
  whom := fun w T F s x h hl1 hl2 => by
    obtain ⟨hok, hv, wv, h1, h2⟩ := h
    exact pFor_any T _ hv wv s x w h1 (by omega) (by omega) hok.locks.1 hok.locks.2
  held := fun w T F s h hl1 hl2 => by
    obtain ⟨hok, hv, wv, h1, h2⟩ := h
    exact pHeld_any T _ hv wv s w h1 hl1
  waits := fun w T F s h hl1 hl2 => by
    obtain ⟨hok, hv, wv, h1, h2⟩ := h
    exact pWaits_any T _ hv wv s w h1 hl2
end Go.Proofs.YtjaeaanpbdmfgaeDoor
