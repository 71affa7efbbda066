/-
  PROVED HERE: lanelaw3.LogKeeps returns true for any ops and any numbers, and all arguments read afterwards as they read before.
  Conditions: the variable errors.errorType reads as its initialiser lays it; the card ties that to the program's text (over the pruned copy of the project that the seat speaks of). errors.As is walked in Go's own text, over the model's entries for internal/reflectlite.
-/
import Derived.Test.YtggieffpehbfaaaDoorRows
import Derived.Test.YtggieffpehbfaaaDoorCards
import Derived.Test.YtggieffpehbfaaaDoorTie
import Derived.Test.YtggieffpehbfaaaDoorLgKeepWalk
import Derived.Test.YtggieffpehbfaaaDoorLgP
import Derived.Test.YtggieffpehbfaaaDoorPlayC
import Derived.Test.YtggieffpehbfaaaDoorOpenEt
import Derived.Test.YtggieffpehbfaaaDoorOpenInts
import Derived.Test.YtggieffpehbfaaaDoorOpsLen
import Derived.SevenTiedAt
import Derived.LaidMore
import Derived.SizedLaws
namespace Go.Proofs.YtggieffpehbfaaaDoor
open Go.ChangeShapes Go.WideShapes Go.ChangeAt Go.RowKit

abbrev laidEt : List (String × DataW Unit) := [("errors.errorType", Rows.laid_errors_errorType)]
theorem et_of_laid {W : World} (h : laidMetH Tryd.prog laidEt W) : EtAt W := by
  have h' : laidMet Tryd.prog [] W ∧ handlesMet Tryd.prog laidEt W := h
  obtain ⟨name, u, ty, e1, e2, e3, e4, e5⟩ := h'.2 _ (List.mem_singleton.2 rfl)
  exact handle_at e1 e2 e3 e4 e5

/-- The heap that the door's own run leaves meets the condition. -/
theorem door_met (os : Os) (args : Array Value) : laidMetH Tryd.prog laidEt ((World.doorLaid Tryd.prog 400 os).forCall (fun _ _ => 0) ⟨#[], args, []⟩).memory :=
  laidMetH_of_parts3 (fuel := 8) (laidMet_nil _ _) (by kernel_rfl) (by kernel_rfl)

set_option maxRecDepth 100000 in
theorem logKeeps_lifted (os : Os) (started : os.Started) (H : Type) (enc : TypeId × Value → H) :
    ReturnsInHanded {} Tryd.checked os 5 .any (fun w args => (Rows.logKeepsSpec.pre enc Tryd.prog Tryd.f5 [] false w args ∧ laidMetH Tryd.prog laidEt w) ∧ sizedMet enc Tryd.prog Tryd.f5 (OpenSpec.ofChange Rows.logKeepsSpec) false w args)
      (Rows.logKeepsSpec.post enc Tryd.prog Tryd.f5 false true false false) := by
  refine returnsInHanded_of_change_and (C := Tryd.checked) (X := fun w _ => laidMetH Tryd.prog laidEt w) (fun _ _ _ hh h => h.of_heap hh) own started (by kernel_rfl) Tryd.func5
    (ChangeSpec.witness_shaped (enc := enc) (C := Tryd.checked) (os := os) (X := fun w _ => laidMetH Tryd.prog laidEt w) false (World.doorLaid Tryd.prog 400 os) #[.slice none 0 0, .slice none 0 0, .slice none 0 0, .slice none 0 0] 8 rfl (World.shaped_of_RefB (by kernel_rfl) (by kernel_rfl)) (by kernel_rfl) (by kernel_rfl) (by kernel_rfl) (door_met os _)) ?_
  intro W base args ds gs before hval0 hW _ hsize hL _
  have hval : ∀ (j : Nat) t v, Tryd.f5.params[j]? = some t → args[j]? = some v → Value.okWide Tryd.prog W .any base t v := hval0
  have hW' := hW
  obtain ⟨p, q, hA0, hV, rfl, hfz, hnd⟩ := hW
  have hA : DataW.TrodAll enc Tryd.prog W 0 (fun _ => true) true Tryd.f5.params.toList args.toList ds p := hA0
  rw [Tryd.params5] at hA hval
  obtain ⟨v0, v1, v2, v3, d0, d1, d2, d3, p0, p1, p2, p3, rfl, rfl, rfl, h0, h1, h2, h3⟩ := trodAll_four hA
  obtain ⟨rfl, rfl⟩ := trodVars_none hV
  clear hA0 hval0
  simp only [List.append_nil, List.append_assoc] at hW'
  have hlt0 : ∀ x ∈ p0, x.block < W.heap.size := fun x hx => by simpa using hW'.lt x (List.mem_append_left _ hx)
  have hlt1 : ∀ x ∈ p1, x.block < W.heap.size := fun x hx => by simpa using hW'.lt x (List.mem_append_right _ (List.mem_append_left _ hx))
  have hlt2 : ∀ x ∈ p2, x.block < W.heap.size := fun x hx => by simpa using hW'.lt x (List.mem_append_right _ (List.mem_append_right _ (List.mem_append_left _ hx)))
  have hlt3 : ∀ x ∈ p3, x.block < W.heap.size := fun x hx => by simpa using hW'.lt x (List.mem_append_right _ (List.mem_append_right _ (List.mem_append_right _ hx)))
  have h0k := h0
  have h1k := h1
  have h2k := h2
  have h3k := h3
  obtain ⟨a0, len0, cap0, rfl⟩ := okWide_slice Tryd.underlying36 (hval 0 36 v0 rfl rfl)
  obtain ⟨a1, len1, cap1, rfl⟩ := okWide_slice Tryd.underlying25 (hval 1 25 v1 rfl rfl)
  obtain ⟨a2, len2, cap2, rfl⟩ := okWide_slice Tryd.underlying25 (hval 2 25 v2 rfl rfl)
  obtain ⟨a3, len3, cap3, rfl⟩ := okWide_slice Tryd.underlying25 (hval 3 25 v3 rfl rfl)
  obtain ⟨fuel0, hf0⟩ := h0
  have hf0' := (by simpa [Value.cells] using hf0 : DataW.trod enc Tryd.prog W 0 (fun _ => true) true fuel0 36 [.slice a0 len0 cap0] = some (d0, p0))
  have hlen0 : len0 * 24 ≤ 140737488351232 := ops_sized (j := 0) hsize (by rw [Tryd.params5]; rfl) rfl (ops_len hf0')
  obtain ⟨l0, b0, off0, rfl, ha0, hn0, hc0, hmem0, _⟩ := open_ops hf0'
  have hbB0 : b0 < W.heap.size ∨ l0 = [] := by
    rcases Nat.eq_zero_or_pos l0.length with h | h
    · exact .inr (List.length_eq_zero_iff.1 h)
    · exact .inl (hlt0 _ (hmem0 h))
  obtain ⟨fuel1, hf1⟩ := h1
  have hf1' := (by simpa [Value.cells] using hf1 : DataW.trod enc Tryd.prog W 0 (fun _ => true) true fuel1 25 [.slice a1 len1 cap1] = some (d1, p1))
  obtain ⟨l1, b1, off1, rfl, ha1, hn1, hc1, hmem1, _⟩ := open_row hf1'
  have hbB1 : b1 < W.heap.size ∨ l1 = [] := by
    rcases Nat.eq_zero_or_pos l1.length with h | h
    · exact .inr (List.length_eq_zero_iff.1 h)
    · exact .inl (hlt1 _ (hmem1 h))
  obtain ⟨fuel2, hf2⟩ := h2
  have hf2' := (by simpa [Value.cells] using hf2 : DataW.trod enc Tryd.prog W 0 (fun _ => true) true fuel2 25 [.slice a2 len2 cap2] = some (d2, p2))
  obtain ⟨l2, b2, off2, rfl, ha2, hn2, hc2, hmem2, _⟩ := open_row hf2'
  have hbB2 : b2 < W.heap.size ∨ l2 = [] := by
    rcases Nat.eq_zero_or_pos l2.length with h | h
    · exact .inr (List.length_eq_zero_iff.1 h)
    · exact .inl (hlt2 _ (hmem2 h))
  obtain ⟨fuel3, hf3⟩ := h3
  have hf3' := (by simpa [Value.cells] using hf3 : DataW.trod enc Tryd.prog W 0 (fun _ => true) true fuel3 25 [.slice a3 len3 cap3] = some (d3, p3))
  obtain ⟨l3, b3, off3, rfl, ha3, hn3, hc3, hmem3, _⟩ := open_row hf3'
  have hbB3 : b3 < W.heap.size ∨ l3 = [] := by
    rcases Nat.eq_zero_or_pos l3.length with h | h
    · exact .inr (List.length_eq_zero_iff.1 h)
    · exact .inl (hlt3 _ (hmem3 h))
  refine (lgkeep_any logW values_ok l0 l1 l2 l3 a0 a1 a2 a3 cap0 cap1 cap2 cap3 W ⟨a0, b0, off0, cap0, rfl, ha0, hn0, hbB0, hc0⟩ ⟨a1, b1, off1, cap1, rfl, ha1, hn1, hbB1, hc1⟩ ⟨a2, b2, off2, cap2, rfl, ha2, hn2, hbB2, hc2⟩ ⟨a3, b3, off3, cap3, rfl, ha3, hn3, hbB3, hc3⟩ (by omega) (et_of_laid hL)).mono fun e W' ⟨he, hb⟩ => ?_
  subst he
  refine ⟨_, rfl, _, _, _, [], p0 ++ (p1 ++ (p2 ++ p3)), [], hW', ?_, ?_, rfl, hb.frame _, fun h => by cases h⟩
  · exact trodAll_mk1 (shut_bool Tryd.underlying4 true)
  · exact trodAll_mk4 (Below.trod laidOut (by kernel_rfl) (of_decide_eq_true (by kernel_rfl)) h0k hb hlt0) (Below.trod laidOut (by kernel_rfl) (of_decide_eq_true (by kernel_rfl)) h1k hb hlt1) (Below.trod laidOut (by kernel_rfl) (of_decide_eq_true (by kernel_rfl)) h2k hb hlt2) (Below.trod laidOut (by kernel_rfl) (of_decide_eq_true (by kernel_rfl)) h3k hb hlt3)

theorem logKeeps_row_holds : Rows.LogKeepsSaid :=
  OpenClaim.holds_of_wide 5 Tryd.f5 rfl rfl rfl rfl rfl rfl rfl ⟨rfl, rfl, rfl, rfl, rfl⟩ rfl rfl rfl rfl rfl (by kernel_rfl) Tryd.func5 (by kernel_rfl)
    (of_decide_eq_true (by kernel_rfl)) (by unfold Func.isWrapper; first | (rw [if_pos (by decide +kernel)]; kernel_rfl) | (rw [if_neg (by decide +kernel)]; exact ⟨rfl, rfl⟩))
    (fun os started H enc _ => logKeeps_lifted os started H enc)

/-- The given statement: the tied card. -/
theorem logKeeps_holds : Rows.LogKeepsCardSaid :=
  Claim7.holds_tied_plain_at .later [] [.handle] true Rows.logKeepsCard.stood.harness true
    logKeeps_row_holds (fun _ h => by cases h) (by kernel_rfl) (fun _ h => by cases h) logKeeps_row_tie rfl ⟨rfl, rfl⟩ (by kernel_rfl) rfl
    (fun f fn hf hfn => by
      obtain rfl : f = 5 := Option.some.inj ((show Tryd.prog.funcNamed "locklane/lanelaw3.LogKeeps" = some 5 by kernel_rfl).symm.trans hf) |>.symm
      obtain rfl : fn = Tryd.f5 := (Option.some.inj (Tryd.func5.symm.trans hfn)).symm
      exact ⟨by kernel_rfl, fun j t ht => by
        rw [Tryd.params5] at ht
        rcases j with _ | _ | _ | _ | j
        · have h3 : t = 36 := by simpa using ht.symm
          subst h3
          exact (show Tryd.prog.wantsStandIn 36 = false by kernel_rfl)
        · have h3 : t = 25 := by simpa using ht.symm
          subst h3
          exact (show Tryd.prog.wantsStandIn 25 = false by kernel_rfl)
        · have h3 : t = 25 := by simpa using ht.symm
          subst h3
          exact (show Tryd.prog.wantsStandIn 25 = false by kernel_rfl)
        · have h3 : t = 25 := by simpa using ht.symm
          subst h3
          exact (show Tryd.prog.wantsStandIn 25 = false by kernel_rfl)
        · simp at ht⟩)
    (by kernel_rfl)
#print axioms logKeeps_holds
end Go.Proofs.YtggieffpehbfaaaDoor
