/-
  PROVED HERE: view.doneNames gives the names of the ops of what is done, view.Same tells whether two lists look the same; of a wrong list Check's error. Old memory stays as it was.
  Conditions: none.
-/
import Derived.Test.YtgnbejemhdcemadViewNames
namespace Go.Proofs.Ytgnbejemhdcemad
open Go.RowKit Go.Maps

theorem dnames_bad (l : List Op3) (v : Value) (w : World) (h : IsOps w v l) (hc : (chk l).2 ≠ 0) :
    Calls Try.prog 24 #[v] w fun e w' => e = .returned (.tuple #[.slice none 0 0, .iface 75 (.int .i64 (chk l).2)]) ∧ Below w.heap.size w w' := by
  go_enter Try.func24, Try.ntmps24
  go_wp2_with (go_at_call 15; refine (done_bad l _ _ h hc).mono ?_; rintro e w1 ⟨rfl, hb1⟩)
  go_ret2
  exact ⟨rfl, hb1⟩
theorem dnames_ok (l : List Op3) (v : Value) (w : World) (h : IsOps w v l) (hc : (chk l).2 = 0) :
    Calls Try.prog 24 #[v] w fun e w' => ∃ v', e = .returned (.tuple #[v', .nilIface]) ∧ IsNames w' v' (namesTo (doneL l) (doneL l).length) ∧ Below w.heap.size w w' := by
  have HD : Hid ((chk (doneL l)).2 = 0) := chk_done hc
  go_enter Try.func24, Try.ntmps24
  go_wp2_with fail
  refine (done_ok l _ _ h hc).mono ?_
  rintro e w1 ⟨v1, rfl, hI1, hb1⟩
  have HI1 : Hid (IsOps w1 v1 (doneL l)) := hI1
  clear hI1 h hc
  go_wp2_with fail
  refine (nms_ok (doneL l) _ _ HI1.out HD.out).mono ?_
  rintro e w2 ⟨v2, rfl, hN2, hb2⟩
  have HN2 : Hid (IsNames w2 v2 (namesTo (doneL l) (doneL l).length)) := hN2
  have hb02 := hb1.trans (hb2.mono hb1.size)
  clear hN2 hb1 hb2
  go_wp2_with fail
  go_ret2
  exact ⟨_, rfl, HN2.out, hb02⟩
theorem vsame_bad (h : List Op3) (v u : Value) (w : World) (hI : IsOps w v h) (hc : (chk h).2 ≠ 0) :
    Calls Try.prog 11 #[v, u] w fun e w' => e = .returned (.tuple #[.bool false, .iface 75 (.int .i64 (chk h).2)]) ∧ Below w.heap.size w w' := by
  go_enter Try.func11, Try.ntmps11
  go_wp2_with (go_at_call 24; refine (dnames_bad h _ _ hI hc).mono ?_; rintro e w1 ⟨rfl, hb1⟩)
  go_ret2
  exact ⟨rfl, hb1⟩
theorem vsame_bad2 (h g : List Op3) (v u : Value) (w : World) (hI : IsOps w v h) (hJ : IsOps w u g) (hc : (chk h).2 = 0) (hd : (chk g).2 ≠ 0) :
    Calls Try.prog 11 #[v, u] w fun e w' => e = .returned (.tuple #[.bool false, .iface 75 (.int .i64 (chk g).2)]) ∧ Below w.heap.size w w' := by
  go_enter Try.func11, Try.ntmps11
  go_wp2_with fail
  refine (dnames_ok h _ _ hI hc).mono ?_
  rintro e w1 ⟨v1, rfl, hN1, hb1⟩
  obtain ⟨ad, cap, rfl⟩ := isNames_len hN1
  clear hN1
  go_wp2_with fail
  refine (dnames_bad g _ _ (hJ.below hb1 (Nat.le_refl _)) hd).mono ?_
  rintro e w2 ⟨rfl, hb2⟩
  go_wp2_with fail
  go_ret2
  exact ⟨rfl, hb1.trans (hb2.mono hb1.size)⟩
set_option maxHeartbeats 4000000 in
theorem vsame_ok (h g : List Op3) (v u : Value) (w : World) (hI : IsOps w v h) (hJ : IsOps w u g) (hc : (chk h).2 = 0) (hd : (chk g).2 = 0) :
    Calls Try.prog 11 #[v, u] w fun e w' => e = .returned (.tuple #[.bool (sightB (doneL h) (doneL g)), .nilIface]) ∧ Below w.heap.size w w' := by
  have HC1 : Hid ((chk (doneL h)).2 = 0) := chk_done hc
  have HC2 : Hid ((chk (doneL g)).2 = 0) := chk_done hd
  have HJ : Hid (IsOps w u g) := hJ
  have HD : Hid ((chk g).2 = 0) := hd
  go_enter Try.func11, Try.ntmps11
  go_wp2_with fail
  refine (dnames_ok h _ _ hI hc).mono ?_
  rintro e w1 ⟨v1, rfl, hN1, hb1⟩
  obtain ⟨ad, cap, rfl⟩ := isNames_len hN1
  have HN1 : Hid (IsNames w1 (.slice ad (doneL h).length cap) (namesTo (doneL h) (doneL h).length)) := hN1
  clear hN1 hc hd hI hJ
  go_wp2_with fail
  refine (dnames_ok g _ _ (HJ.out.below hb1 (Nat.le_refl _)) HD.out).mono ?_
  rintro e w2 ⟨v2, rfl, hN2, hb2⟩
  obtain ⟨ad2, cap2, rfl⟩ := isNames_len hN2
  have HN2 : Hid (IsNames w2 (.slice ad2 (doneL g).length cap2) (namesTo (doneL g) (doneL g).length)) := hN2
  have HN12 : Hid (IsNames w2 (.slice ad (doneL h).length cap) (namesTo (doneL h) (doneL h).length)) := HN1.out.below hb2 (Nat.le_refl _)
  have hb02 := hb1.trans (hb2.mono hb1.size)
  clear hN2 hb1 hb2
  go_wp2_with fail
  refine (look_any (doneL h) _ _ HN12.out (chk_len HC1.out) (chk_ops HC1.out)).mono ?_
  rintro e w3 ⟨M, D, rfl, hM, hL3, hb3⟩
  have HL3 : Hid (Looked w3 M (doneL h) (doneL h).length D) := hL3
  have HN3 : Hid (IsNames w3 (.slice ad2 (doneL g).length cap2) (namesTo (doneL g) (doneL g).length)) := HN2.out.below hb3 (Nat.le_refl _)
  have hb03 := hb02.trans (hb3.mono hb02.size)
  clear hL3 hb3 hM
  go_wp2_with fail
  refine (viewIs_any (doneL h) (doneL g) M D _ _ (chk_len HC1.out) (chk_ops HC1.out) (chk_len HC2.out) (chk_ops HC2.out) HL3.out HN3.out).mono ?_
  rintro e w4 ⟨rfl, hb4⟩
  go_wp2_with fail
  go_ret2
  exact ⟨rfl, hb03.trans (hb4.mono hb03.size)⟩
end Go.Proofs.Ytgnbejemhdcemad
