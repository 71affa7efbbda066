/-
  PROVED HERE: lanelaw1.PlayDone returns true for every list of ops, and the list reads afterwards as it read before: without those that did not commit it comes to the same, and its Reads read the same; items that nobody wrote are 0.
  Conditions: none but what the row itself says by its form (the given Rows text).
-/
import Derived.Test.YtgnbejemhdcemadRows
import Derived.Test.YtgnbejemhdcemadPDoneWalk
import Derived.Test.YtgnbejemhdcemadPlayC
import Derived.Test.YtgnbejemhdcemadOpenOps
namespace Go.Proofs.Ytgnbejemhdcemad
open Go.ChangeShapes Go.WideShapes Go.ChangeAt Go.RowKit

theorem own : ownKnob Try.prog.godebug = none := by kernel_rfl
theorem laidOut : laidOutB Try.prog = true := by kernel_rfl
theorem pdone_any (l : List Op3) (v : Value) (w : World) (h : IsOps w v l) :
    Calls Try.prog 4 #[v] w fun e w' => e = .returned (.bool true) ∧ Below w.heap.size w w' := by
  by_cases hc : (chk l).2 = 0
  · exact pdone_ok values_ok seen_ok l v w h hc
  · exact pdone_bad values_ok l v w h hc
set_option maxRecDepth 100000 in
theorem pdone_lifted (os : Os) (started : os.Started) (H : Type) (enc : TypeId × Value → H) :
    ReturnsInHanded {} Try.checked os 4 .any (Rows.playDoneSpec.pre6 enc Try.prog Try.f4 Rows.playDoneRow.domain false) (Rows.playDoneSpec.post enc Try.prog Try.f4 false true false false) := by
  refine returnsInHanded_of_change (C := Try.checked) own started (by kernel_rfl) Try.func4
    (ChangeSpec.witness6 (enc := enc) (C := Try.checked) false ⟨#[], #[.slice none 0 0], []⟩ 8 (by kernel_rfl) (by kernel_rfl) (by kernel_rfl) (by kernel_rfl)) ?_
  intro W base args ds gs before hval0 hW _ _
  have hval : ∀ (j : Nat) t v, Try.f4.params[j]? = some t → args[j]? = some v → Value.okWide Try.prog W .any base t v := hval0
  have hW' := hW
  obtain ⟨p, q, hA0, hV, rfl, hfz, hnd⟩ := hW
  have hA : DataW.TrodAll enc Try.prog W 0 (fun _ => true) true Try.f4.params.toList args.toList ds p := hA0
  rw [Try.params4] at hA hval
  obtain ⟨v0, d0, rfl, rfl, h0⟩ := trodAll_one hA
  obtain ⟨rfl, rfl⟩ := trodVars_none hV
  clear hA0 hval0
  simp only [List.append_nil] at hW'
  have hlt0 : ∀ x ∈ p, x.block < W.heap.size := fun x hx => by simpa using hW'.lt x hx
  have h0k := h0
  obtain ⟨a0, len, cap, rfl⟩ := okWide_slice Try.underlying22 (hval 0 22 v0 rfl rfl)
  obtain ⟨fuel, hf⟩ := h0
  have hf' := (by simpa [Value.cells] using hf : DataW.trod enc Try.prog W 0 (fun _ => true) true fuel 22 [.slice a0 len cap] = some (d0, p))
  obtain ⟨l, b, off, rfl, ha, hn, hops, hmem, _⟩ := open_ops hf'
  have hbB : b < W.heap.size ∨ l = [] := by
    rcases Nat.eq_zero_or_pos l.length with h | h
    · exact .inr (List.length_eq_zero_iff.1 h)
    · exact .inl (hlt0 _ (hmem h))
  refine (pdone_any l (.slice a0 l.length cap) W ⟨a0, b, off, cap, rfl, ha, hn, hbB, hops⟩).mono fun e W' ⟨he, hb⟩ => ?_
  subst he
  refine ⟨_, rfl, _, _, _, [], p, [], hW', ?_, ?_, rfl, hb.frame _, fun h => by cases h⟩
  · exact trodAll_mk1 (shut_bool Try.underlying4 true)
  · exact trodAll_mk1 (Below.trod laidOut (by kernel_rfl) (of_decide_eq_true (by kernel_rfl)) h0k hb hlt0)

theorem pdone_over : Rows.playDoneRow.holds Try.pinned (OpenSpec.ofChange Rows.playDoneSpec) :=
  OpenClaim.holds_of_wide 4 Try.f4 rfl rfl rfl rfl rfl rfl rfl ⟨rfl, rfl, rfl, rfl, rfl⟩ rfl rfl rfl rfl rfl (by kernel_rfl) Try.func4 (by kernel_rfl)
    (of_decide_eq_true (by kernel_rfl)) (by unfold Func.isWrapper; first | (rw [if_pos (by decide +kernel)]; kernel_rfl) | (rw [if_neg (by decide +kernel)]; exact ⟨rfl, rfl⟩))
    (fun os started H enc _ => pdone_lifted os started H enc)
/-- The given statement. -/
theorem playDone_holds : Rows.PlayDoneSaid := pdone_over
#print axioms playDone_holds
end Go.Proofs.Ytgnbejemhdcemad
