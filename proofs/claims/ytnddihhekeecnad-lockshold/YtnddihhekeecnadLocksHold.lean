/-
  PROVED HERE: lanelaw1.LocksHold returns true for every list of locks and of steps, and both read afterwards as they read before: those that are held are at odds with none; who waits waits for some that is held, or waits ahead; when all that hold are freed, one by one, all are held once.
  Conditions: none of ours: what the row itself says by its form stands in the given Rows text.
-/
import Derived.Test.YtnddihhekeecnadRows
import Derived.Test.YtnddihhekeecnadLHoldWalk
import Derived.Test.YtnddihhekeecnadLocksP
import Derived.Test.YtnddihhekeecnadOpenLocks
import Derived.Test.YtnddihhekeecnadOpenInts
namespace Go.Proofs.Ytnddihhekeecnad
open Go.ChangeShapes Go.WideShapes Go.ChangeAt Go.RowKit

theorem own : ownKnob Try.prog.godebug = none := by kernel_rfl
theorem laidOut : laidOutB Try.prog = true := by kernel_rfl
set_option maxRecDepth 100000 in
theorem lhold_lifted (os : Os) (started : os.Started) (H : Type) (enc : TypeId × Value → H) :
    ReturnsInHanded {} Try.checked os 7 .any (Rows.locksHoldSpec.pre6 enc Try.prog Try.f7 Rows.locksHoldRow.domain false) (Rows.locksHoldSpec.post enc Try.prog Try.f7 false true false false) := by
  refine returnsInHanded_of_change (C := Try.checked) own started (by kernel_rfl) Try.func7
    (ChangeSpec.witness6 (enc := enc) (C := Try.checked) false ⟨#[], #[.slice none 0 0, .slice none 0 0], []⟩ 8 (by kernel_rfl) (by kernel_rfl) (by kernel_rfl) (by kernel_rfl)) ?_
  intro W base args ds gs before hval0 hW _ _
  have hval : ∀ (j : Nat) t v, Try.f7.params[j]? = some t → args[j]? = some v → Value.okWide Try.prog W .any base t v := hval0
  have hW' := hW
  obtain ⟨p, q, hA0, hV, rfl, hfz, hnd⟩ := hW
  have hA : DataW.TrodAll enc Try.prog W 0 (fun _ => true) true Try.f7.params.toList args.toList ds p := hA0
  rw [Try.params7] at hA hval
  obtain ⟨v0, v1, d0, d1, p0, p1, rfl, rfl, rfl, h0, h1⟩ := trodAll_two hA
  obtain ⟨rfl, rfl⟩ := trodVars_none hV
  clear hA0 hval0
  simp only [List.append_nil] at hW'
  have hlt0 : ∀ x ∈ p0, x.block < W.heap.size := fun x hx => by simpa using hW'.lt x (List.mem_append_left _ hx)
  have hlt1 : ∀ x ∈ p1, x.block < W.heap.size := fun x hx => by simpa using hW'.lt x (List.mem_append_right _ (by simpa using hx))
  have h0k := h0
  have h1k := h1
  obtain ⟨a0, len, cap, rfl⟩ := okWide_slice Try.underlying54 (hval 0 54 v0 rfl rfl)
  obtain ⟨a1, len1, cap1, rfl⟩ := okWide_slice Try.underlying32 (hval 1 32 v1 rfl rfl)
  obtain ⟨fuel, hf⟩ := h0
  have hf' := (by simpa [Value.cells] using hf : DataW.trod enc Try.prog W 0 (fun _ => true) true fuel 54 [.slice a0 len cap] = some (d0, p0))
  obtain ⟨l, b, off, rfl, ha, hn, hops, hmem, _⟩ := open_locks hf'
  have hbB : b < W.heap.size ∨ l = [] := by
    rcases Nat.eq_zero_or_pos l.length with h | h
    · exact .inr (List.length_eq_zero_iff.1 h)
    · exact .inl (hlt0 _ (hmem h))
  obtain ⟨fuel1, hf1⟩ := h1
  have hf1' := (by simpa [Value.cells] using hf1 : DataW.trod enc Try.prog W 0 (fun _ => true) true fuel1 32 [.slice a1 len1 cap1] = some (d1, p1))
  obtain ⟨o, b1, off1, rfl, ha1, hn1, hcs1, hmem1, _⟩ := open_row hf1'
  have hbB1 : b1 < W.heap.size ∨ o = [] := by
    rcases Nat.eq_zero_or_pos o.length with h | h
    · exact .inr (List.length_eq_zero_iff.1 h)
    · exact .inl (hlt1 _ (hmem1 h))
  refine (lhold_walk locksC l o (.slice a0 l.length cap) (.slice a1 o.length cap1) W ⟨a0, b, off, cap, rfl, ha, hn, hbB, hops⟩ ⟨a1, b1, off1, cap1, rfl, ha1, hn1, hbB1, hcs1⟩).mono fun e W' ⟨he, hb⟩ => ?_
  subst he
  refine ⟨_, rfl, _, _, _, [], p0 ++ p1, [], hW', ?_, ?_, rfl, hb.frame _, fun h => by cases h⟩
  · exact trodAll_mk1 (shut_bool Try.underlying4 true)
  · exact trodAll_mk2 (Below.trod laidOut (by kernel_rfl) (of_decide_eq_true (by kernel_rfl)) h0k hb hlt0) (Below.trod laidOut (by kernel_rfl) (of_decide_eq_true (by kernel_rfl)) h1k hb hlt1)

/-- The given statement. -/
theorem locksHold_holds : Rows.LocksHoldSaid :=
  OpenClaim.holds_of_wide 7 Try.f7 rfl rfl rfl rfl rfl rfl rfl ⟨rfl, rfl, rfl, rfl, rfl⟩ rfl rfl rfl rfl rfl (by kernel_rfl) Try.func7 (by kernel_rfl)
    (of_decide_eq_true (by kernel_rfl)) (by unfold Func.isWrapper; first | (rw [if_pos (by decide +kernel)]; kernel_rfl) | (rw [if_neg (by decide +kernel)]; exact ⟨rfl, rfl⟩))
    (fun os started H enc _ => lhold_lifted os started H enc)
#print axioms locksHold_holds
end Go.Proofs.Ytnddihhekeecnad
