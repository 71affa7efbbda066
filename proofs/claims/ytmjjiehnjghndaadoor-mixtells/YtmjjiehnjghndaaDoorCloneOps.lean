/-
  PROVED HERE: slices.Clone at a slice of ops gives the same ops in new memory.
  Conditions: there are at most 40.
-/
import Derived.Test.YtmjjiehnjghndaaDoorMgai
import Derived.Test.YtmjjiehnjghndaaDoorRegion
import Derived.Lib.SliceRun
namespace Go.Proofs.YtmjjiehnjghndaaDoor
open Go.RowKit

set_option maxHeartbeats 2000000 in
set_option maxRecDepth 100000 in
theorem clone_ops (l : List Op3) (b off cap : Nat) (w : World) (hl : l.length ≤ 40) (hops : OpsAt w b off l) :
    Calls Tryd.prog 27 #[.slice (some ⟨b, off, none⟩) l.length cap] w fun e w' => ∃ v', e = .returned v' ∧ w'.ownsRow w.heap.size 57 3 v' l.length (flat l) ∧ v' ≠ .slice none 0 0 ∧ Below w.heap.size w w' := by
  obtain ⟨i0, hi, hz0, hs0, hy0⟩ := info_parts infoOp
  have HI : Hid (Tryd.prog.info? 57 = some i0 ∧ i0.zero = some (.agg #[.int .i64 0, .int .i64 0, .int .i64 0]) ∧ i0.size = 3 ∧ i0.bytes = 24) := ⟨hi, hz0, hs0, hy0⟩
  clear hi hz0 hs0 hy0
  have HS : Hid (∀ j u, (flat l)[j]? = some u → w.cell? ⟨b, off + j, none⟩ = some u) := hops.flat
  clear hops
  have hq : ∀ w, (binOp .eql 22 (.slice (some ⟨b, off, none⟩) l.length cap) (.slice none 0 0)).run Tryd.prog w = .ok (.bool false) w := fun w => Lib.run_eql_slice_nil w _ _ _ _ _ _ _ Tryd.underlying22
  go_enter Tryd.func27, Tryd.ntmps27
  go_wp2_with (at_builtin; refine wpList_append_own _ rfl (.tmp 5) (.tmp 6) 22 rfl w.heap.size 57 i0 (.agg #[.int .i64 0, .int .i64 0, .int .i64 0]) 3 24 Tryd.underlying22 HI.out.1 HI.out.2.1 HI.out.2.2.1 HI.out.2.2.2 rfl (by decide) (.slice (some ⟨w.heap.size, 0, none⟩) 0 0) 0 [] rfl (World.ownsRow_made w #[] 0 (Nat.le_refl _) (Nat.zero_le _) rfl) ⟨b, off, none⟩ l.length cap (flat l) rfl (flat_length l) (fun j u hj => by rw [Addr.add_lit]; have h1 := HS.out j u hj; rw [World.cell?_alloc_lt _ _ _ (World.block_lt_of_cell? w _ h1)]; exact h1) (flat_one l) (by unfold maxLen; omega) (by omega) (by simp) ?_; intro v1 w1 hown1 hgr1 hnil1)
  go_ret
  refine ⟨_, rfl, by simpa using hown1, ?_, ((Below.refl _ w).alloc (Nat.le_refl _) _).grown hgr1 (by simp) (by intro k hk; simp [Value.ownBlock] at hk; omega)⟩
  intro hv
  have := (hnil1.1 hv).1
  simp at this
end Go.Proofs.YtmjjiehnjghndaaDoor
