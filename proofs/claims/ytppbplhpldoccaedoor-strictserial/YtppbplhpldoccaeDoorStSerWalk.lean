/-
  PROVED HERE: lanelaw4.StrictSerial answers true, of any numbers, by any way, over whatever keeps StrictC.
  Conditions: StrictC; the variable errors.errorType holds the handle of the type error.
-/
import Derived.Test.YtppbplhpldoccaeDoorMgam
import Derived.Test.YtppbplhpldoccaeDoorPieces
namespace Go.Proofs.YtppbplhpldoccaeDoor
open Go.RowKit

theorem hid_s9 {p : Prop} (h : p) : Hid p := h

theorem pieces_flat (a b : Int) (ps : List Int) : piecesL a b ps = ps.flatMap fun t => [(t, 1, a), (t, 2, b), (t, 3, 0)] := rfl
set_option maxHeartbeats 8000000 in
set_option maxRecDepth 100000 in
theorem stser_out (hS : StrictC) (v : Value) (a b way : Int) (w : World) (h : a < 1 ∨ 6 < a ∨ b < 1 ∨ 6 < b ∨ way < 0 ∨ 2 < way) (hg : EtAt w) :
    Calls Tryd.prog 4 #[v, .int .i64 a, .int .i64 b, .int .i64 way] w fun e w' => e = .returned (.bool true) ∧ Below w.heap.size w w' := by
  have HRUN : Hid (Calls Tryd.prog 20 #[.slice none 0 0, .int .i64 3] w fun e w' => ∃ x1 y1 z1 x2 y2 z2, e = .returned (.tuple #[.slice x1 y1 z1, .slice x2 y2 z2, .iface 66 (.int .i64 1)]) ∧ Below w.heap.size w w') := by
    refine (hS [] (.slice none 0 0) 3 w (isOps_nil _)).mono ?_
    rintro e w' ⟨v1, v2, he, hi1, hi2, hb⟩
    rw [show strictU [] 3 = (([], []), 1) from rfl] at he hi1 hi2
    obtain ⟨x1, b1, o1, z1, rfl, -⟩ := hi1
    obtain ⟨x2, b2, o2, z2, rfl, -⟩ := hi2
    exact ⟨_, _, _, _, _, _, he, hb⟩
  have HER : Hid (∀ W, Below w.heap.size w W → Calls Tryd.prog 10 #[.iface 66 (.int .i64 1), .int .i64 1] W fun e w' => e = .returned (.bool true) ∧ Below W.heap.size W w') := fun W hW => (error_hit 1 1 W (hg.below hW hg.lt)).mono fun _ _ ⟨he, hb⟩ => ⟨by rw [he]; simp, hb⟩
  clear hS hg
  go_enter Tryd.func4, Tryd.ntmps4
  by_cases h1 : a < 1
  · clear h
    go_wp2_with fail
    refine HRUN.out.mono ?_
    rintro e w1 ⟨x1, y1, z1, x2, y2, z2, rfl, hb1⟩
    go_wp2_with fail
    refine (HER.out _ hb1).mono ?_
    rintro e w2 ⟨rfl, hb2⟩
    go_wp2_with fail
    go_ret
    exact ⟨rfl, hb1.trans (hb2.mono hb1.size)⟩
  · by_cases h2 : 6 < a
    · clear h
      go_wp2_with fail
      refine HRUN.out.mono ?_
      rintro e w1 ⟨x1, y1, z1, x2, y2, z2, rfl, hb1⟩
      go_wp2_with fail
      refine (HER.out _ hb1).mono ?_
      rintro e w2 ⟨rfl, hb2⟩
      go_wp2_with fail
      go_ret
      exact ⟨rfl, hb1.trans (hb2.mono hb1.size)⟩
    · by_cases h3 : b < 1
      · clear h
        go_wp2_with fail
        refine HRUN.out.mono ?_
        rintro e w1 ⟨x1, y1, z1, x2, y2, z2, rfl, hb1⟩
        go_wp2_with fail
        refine (HER.out _ hb1).mono ?_
        rintro e w2 ⟨rfl, hb2⟩
        go_wp2_with fail
        go_ret
        exact ⟨rfl, hb1.trans (hb2.mono hb1.size)⟩
      · by_cases h4 : 6 < b
        · clear h
          go_wp2_with fail
          refine HRUN.out.mono ?_
          rintro e w1 ⟨x1, y1, z1, x2, y2, z2, rfl, hb1⟩
          go_wp2_with fail
          refine (HER.out _ hb1).mono ?_
          rintro e w2 ⟨rfl, hb2⟩
          go_wp2_with fail
          go_ret
          exact ⟨rfl, hb1.trans (hb2.mono hb1.size)⟩
        · by_cases h5 : way < 0
          · clear h
            go_wp2_with fail
            refine HRUN.out.mono ?_
            rintro e w1 ⟨x1, y1, z1, x2, y2, z2, rfl, hb1⟩
            go_wp2_with fail
            refine (HER.out _ hb1).mono ?_
            rintro e w2 ⟨rfl, hb2⟩
            go_wp2_with fail
            go_ret
            exact ⟨rfl, hb1.trans (hb2.mono hb1.size)⟩
          · have h6 : 2 < way := by omega
            clear h
            go_wp2_with fail
            refine HRUN.out.mono ?_
            rintro e w1 ⟨x1, y1, z1, x2, y2, z2, rfl, hb1⟩
            go_wp2_with fail
            refine (HER.out _ hb1).mono ?_
            rintro e w2 ⟨rfl, hb2⟩
            go_wp2_with fail
            go_ret
            exact ⟨rfl, hb1.trans (hb2.mono hb1.size)⟩
set_option maxHeartbeats 8000000 in
set_option maxRecDepth 100000 in
theorem stser_in (hS : StrictC) (l : List Int) (v : Value) (a b way : Int) (w : World) (hI : IsInts w v l) (hl : l.length ≤ 140737488355328) (ha : 1 ≤ a ∧ a ≤ 6) (hb : 1 ≤ b ∧ b ≤ 6) (hw : ¬ (way < 0 ∨ 2 < way)) :
    Calls Tryd.prog 4 #[v, .int .i64 a, .int .i64 b, .int .i64 way] w fun e w' => e = .returned (.bool true) ∧ Below w.heap.size w w' := by
  have HP := hid_s9 (pieces_any l v a b w hI hl)
  have HRUN : Hid (∀ (ps : List Int) (W : World) (u : Value), Deals1 ps → IsOps W u (piecesL a b ps) → Calls Tryd.prog 20 #[u, .int .i64 way] W fun e w' => ∃ v1 x2 z2, e = .returned (.tuple #[v1, .slice x2 0 z2, .nilIface]) ∧ IsOps w' v1 (piecesL a b ps) ∧ Below W.heap.size W w') := fun ps W u hd hu => by
    refine (hS (piecesL a b ps) u way W hu).mono ?_
    rintro e w' ⟨v1, v2, he, hi1, hi2, hbe⟩
    have hc := pieces_chk ha hb hd
    obtain ⟨k1, k2⟩ := strict_serial (way := way) ha hb ps fun x hx => by
      have := hd.deal x hx
      simpa [dealB] using this
    rw [strictU_ok hc hw] at he hi1 hi2
    rw [← pieces_flat] at k1 k2
    rw [k1] at hi1
    rw [k2] at hi2
    obtain ⟨x2, b2, o2, z2, rfl, -⟩ := hi2
    exact ⟨v1, x2, z2, he, hi1, hbe⟩
  have hw0 : ¬ way < 0 := by omega
  have hw2 : ¬ 2 < way := by omega
  obtain ⟨a1, a6⟩ := ha
  obtain ⟨b1, b6⟩ := hb
  have na1 : ¬ a < 1 := by omega
  have na6 : ¬ 6 < a := by omega
  have nb1 : ¬ b < 1 := by omega
  have nb6 : ¬ 6 < b := by omega
  have hv := hI
  obtain ⟨ad, b0, off, cap, rfl, -⟩ := hv
  clear hS hI hw
  go_enter Tryd.func4, Tryd.ntmps4
  go_wp2_with fail
  refine HP.out.mono ?_
  rintro e w1 ⟨ps, hd, v1, v2, rfl, h1, h2, hb1⟩
  have hlen : (piecesL a b ps).length ≤ 140737488351 := by rw [pieces_len]; have := hd.len; omega
  have HL := hid_s9 hlen
  obtain ⟨x1, y1, z1, rfl⟩ : ∃ ad n c, v1 = .slice ad n c := by obtain ⟨ad, _, _, cap, hv, _⟩ := h1; exact ⟨ad, _, cap, hv⟩
  obtain ⟨x2, y2, z2, rfl⟩ : ∃ ad n c, v2 = .slice ad n c := by obtain ⟨ad, _, _, cap, hv, _⟩ := h2; exact ⟨ad, _, cap, hv⟩
  have HH1 := hid_s9 h1
  have HD := hid_s9 hd
  clear h1 h2 hd hlen
  go_wp2_with fail
  refine (HRUN.out ps w1 _ HD.out HH1.out).mono ?_
  rintro e w2 ⟨t1, x3, z3, rfl, ht, hb2⟩
  obtain ⟨x4, y4, z4, rfl⟩ : ∃ ad n c, t1 = .slice ad n c := by obtain ⟨ad, _, _, cap, hv, _⟩ := ht; exact ⟨ad, _, cap, hv⟩
  have HT := hid_s9 ht
  have HH2 := hid_s9 (HH1.out.below hb2 (Nat.le_refl _))
  have hb12 := hb1.trans (hb2.mono hb1.size)
  clear ht hb1 hb2
  go_wp2_with fail
  refine (same_ops (piecesL a b ps) _ _ w2 HT.out HH2.out HL.out).mono ?_
  rintro e w3 ⟨rfl, hb3⟩
  have hb13 := hb12.trans (hb3.mono hb12.size)
  clear hb12 hb3
  go_wp2_with fail
  go_ret
  exact ⟨rfl, hb13⟩
theorem stser_any (hS : StrictC) (l : List Int) (v : Value) (a b way : Int) (w : World) (hI : IsInts w v l) (hl : l.length ≤ 140737488355328) (hg : EtAt w) :
    Calls Tryd.prog 4 #[v, .int .i64 a, .int .i64 b, .int .i64 way] w fun e w' => e = .returned (.bool true) ∧ Below w.heap.size w w' := by
  by_cases h : a < 1 ∨ 6 < a ∨ b < 1 ∨ 6 < b ∨ way < 0 ∨ 2 < way
  · exact stser_out hS v a b way w h hg
  · exact stser_in hS l v a b way w hI hl (by omega) (by omega) (by omega)
end Go.Proofs.YtppbplhpldoccaeDoor
