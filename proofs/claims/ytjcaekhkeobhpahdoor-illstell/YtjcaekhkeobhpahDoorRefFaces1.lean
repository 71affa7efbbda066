/-
  PROVED HERE: laneref1.Open answers as the plain function openB says. Old memory stays as it was.
  Conditions: the list is short.
-/
import Derived.Test.YtjcaekhkeobhpahDoorRefFaces0
namespace Go.Proofs.YtjcaekhkeobhpahDoor
open Go.RowKit

theorem openTo_succ (h : List Op3) (i : Nat) (what : Int) (k : Nat) : openTo h i what (k + 1) = (openTo h i what k || ((opAt h k).2.1 == what && ((opAt h k).2.2 == (opAt h i).2.2 && ((opAt h k).1 != (opAt h i).1 && endBy h (opAt h k).1 i == 0)))) := by
  unfold openTo
  rw [List.range_succ, List.any_append]
  simp
theorem open_pass {h : List Op3} {i : Nat} {what : Int} {k : Nat} (h0 : openTo h i what k = false) (hn : ((opAt h k).2.1 == what && ((opAt h k).2.2 == (opAt h i).2.2 && ((opAt h k).1 != (opAt h i).1 && endBy h (opAt h k).1 i == 0))) = false) : openTo h i what (k + 1) = false := by
  rw [openTo_succ, h0, hn]; rfl
theorem openTo_mono {h : List Op3} {i : Nat} {what : Int} {k n : Nat} (hkn : k ≤ n) (h0 : openTo h i what k = true) : openTo h i what n = true := by
  unfold openTo at h0 ⊢
  obtain ⟨m, m1, m2⟩ := List.any_eq_true.1 h0
  exact List.any_eq_true.2 ⟨m, List.mem_range.2 (by have := List.mem_range.1 m1; omega), m2⟩
set_option maxHeartbeats 8000000 in
theorem open_any (l : List Op3) (v : Value) (i : Nat) (wh : Int) (w : World) (hI : IsOps w v l) (hl : l.length ≤ 40) (hi : i < l.length) :
    Calls Tryd.prog 14 #[v, .int .i64 i, .int .i64 wh] w fun e w' => e = .returned (.bool (openB l i wh)) ∧ Below w.heap.size w w' := by
  have HIO : Hid (∀ W, Below w.heap.size w W → IsOps W v l) := fun W hW => hI.below hW (Nat.le_refl _)
  obtain ⟨ad, b, off, cap, rfl, ha, -, hbB, hops⟩ := hI
  have HE : Hid (∀ W, Below w.heap.size w W → ∀ k, k < l.length → ad = some ⟨b, off, none⟩ ∧ b < w.heap.size ∧ W.cell? ⟨b, off + k * 3, none⟩ = some (.int .i64 (opAt l k).1) ∧ W.cell? ⟨b, off + k * 3 + 1, none⟩ = some (.int .i64 (opAt l k).2.1) ∧ W.cell? ⟨b, off + k * 3 + 2, none⟩ = some (.int .i64 (opAt l k).2.2)) := fun W hW k hk => by
    refine ⟨ha (by omega), ?_, (hops.below hW hbB) k hk⟩
    rcases hbB with h | h
    · exact h
    · subst h; simp at hk
  obtain ⟨⟨t, a, x⟩, hx⟩ : ∃ o : Op3, opAt l i = o := ⟨_, rfl⟩
  have HXX : Hid (opAt l i = (t, a, x)) := hx
  have hil : (i : Int) < (l.length : Int) := by omega
  clear ha hbB hops hx
  go_enter Tryd.func14, Tryd.ntmps14
  go_wp2_with fail
  go_loopw [7] (fun v7 wr => ∃ k : Nat, k ≤ i ∧ v7 = .int .i64 k ∧ openTo l i wh k = false ∧ Below w.heap.size w wr) (fun v7 _ => i - (intOf v7).toNat)
  case atStart => exact ⟨0, Nat.zero_le _, rfl, rfl, Below.refl _ _⟩
  case round =>
    obtain ⟨k, hk, rfl, hsx, hb2⟩ := hrel
    have HSX : Hid (openTo l i wh k = false) := hsx
    clear hsx
    have hsz := hb2.size
    by_cases hki : k < i
    · have hki' : (k : Int) < (i : Int) := by omega
      have hkl' : (k : Int) < (l.length : Int) := by omega
      obtain ⟨hadr, hbl, c0, c1, c2⟩ := HE.out wr hb2 k (by omega)
      subst hadr
      obtain ⟨-, -, d0, -, d2⟩ := HE.out wr hb2 i hi
      rw [HXX.out] at d0 d2
      obtain ⟨⟨t2, a2, x2⟩, ho2⟩ : ∃ o : Op3, opAt l k = o := ⟨_, rfl⟩
      rw [ho2] at c0 c1 c2
      simp only at c0 c1 c2 d0 d2
      have HO2 : Hid (opAt l k = (t2, a2, x2)) := ho2
      clear ho2
      obtain ⟨B, hB1, hB2⟩ : ∃ B, B ≤ wr.heap.size ∧ wr.heap.size ≤ B := ⟨_, Nat.le_refl _, Nat.le_refl _⟩
      have hne : Nonempty (Later B wr) := ⟨⟨wr, Below.refl _ _⟩⟩
      obtain ⟨en, hen⟩ : ∃ en, endBy l t2 i = en := ⟨_, rfl⟩
      have HEN : Hid (endBy l t2 i = en) := hen
      have HEND : Hid (∀ y : Later B wr, Calls Tryd.prog 15 #[.slice (some ⟨b, off, none⟩) l.length cap, .int .i64 t2, .int .i64 i] y.W fun e w' => e = .returned (.int .i64 en) ∧ ∃ z : Later B wr, w' = z.W) := fun y => hen ▸ Later.at y hB1 ((endAt_any l _ t2 i y.W (HIO.out y.W (hb2.trans (y.h.mono (by omega)))) hl (by omega)).mono fun _ _ ⟨he, hw⟩ => ⟨he, by rw [hw]; exact Below.refl _ _⟩)
      have e0 : ∀ y : Later B wr, y.W.cell? ⟨b, off + k * 3, none⟩ = some (.int .i64 t2) := fun y => (y.h.cell (p := ⟨b, off + k * 3, none⟩) (by simp; omega)).trans c0
      have e1 : ∀ y : Later B wr, y.W.cell? ⟨b, off + k * 3 + 1, none⟩ = some (.int .i64 a2) := fun y => (y.h.cell (p := ⟨b, off + k * 3 + 1, none⟩) (by simp; omega)).trans c1
      have e2 : ∀ y : Later B wr, y.W.cell? ⟨b, off + k * 3 + 2, none⟩ = some (.int .i64 x2) := fun y => (y.h.cell (p := ⟨b, off + k * 3 + 2, none⟩) (by simp; omega)).trans c2
      have f0 : ∀ y : Later B wr, y.W.cell? ⟨b, off + i * 3, none⟩ = some (.int .i64 t) := fun y => (y.h.cell (p := ⟨b, off + i * 3, none⟩) (by simp; omega)).trans d0
      have f2 : ∀ y : Later B wr, y.W.cell? ⟨b, off + i * 3 + 2, none⟩ = some (.int .i64 x) := fun y => (y.h.cell (p := ⟨b, off + i * 3 + 2, none⟩) (by simp; omega)).trans d2
      clear c0 c1 c2 d0 d2 hen
      cases hq : (a2 == wh) with
      | false =>
        have HW : Hid (openTo l i wh (k + 1) = false) := open_pass HSX.out (by rw [HO2.out, HXX.out]; exact (by show (a2 == wh && _) = false; rw [hq]; rfl))
        go_wp2_with fail
        refine region_later B (by kernel_rfl) (by kernel_rfl) ?_
        repeat (first | go_big_quiet_skip | (go_big_quiet_want; go_big_quiet_op; first | go_big_quiet_on | (refine ⟨_, fun y => HEND.out y, ?_⟩; go_big_quiet_on)))
        refine wpQuiet_nil ?_
        intro W hW
        obtain ⟨y, hy⟩ := hW
        have hbW : Below w.heap.size w W := by rw [hy]; exact hb2.trans (y.h.mono (by omega))
        clear hy
        go_wp2
        go_roundw
        case rel => exact ⟨k + 1, by omega, by go_num, HW.out, hbW⟩
        case measure => simp [intOf]; omega
      | true =>
        cases hq2 : (x2 == x) with
        | false =>
          have HW : Hid (openTo l i wh (k + 1) = false) := open_pass HSX.out (by rw [HO2.out, HXX.out]; exact (by show (a2 == wh && (x2 == x && _)) = false; rw [hq, hq2]; rfl))
          go_wp2_with fail
          refine region_later B (by kernel_rfl) (by kernel_rfl) ?_
          repeat (first | go_big_quiet_skip | (go_big_quiet_want; go_big_quiet_op; first | go_big_quiet_on | (refine ⟨_, fun y => HEND.out y, ?_⟩; go_big_quiet_on)))
          refine wpQuiet_nil ?_
          intro W hW
          obtain ⟨y, hy⟩ := hW
          have hbW : Below w.heap.size w W := by rw [hy]; exact hb2.trans (y.h.mono (by omega))
          clear hy
          go_wp2
          go_roundw
          case rel => exact ⟨k + 1, by omega, by go_num, HW.out, hbW⟩
          case measure => simp [intOf]; omega
        | true =>
          cases hq3 : (t2 != t) with
          | false =>
            have HW : Hid (openTo l i wh (k + 1) = false) := open_pass HSX.out (by rw [HO2.out, HXX.out]; exact (by show (a2 == wh && (x2 == x && (t2 != t && _))) = false; rw [hq, hq2, hq3]; rfl))
            go_wp2_with fail
            refine region_later B (by kernel_rfl) (by kernel_rfl) ?_
            repeat (first | go_big_quiet_skip | (go_big_quiet_want; go_big_quiet_op; first | go_big_quiet_on | (refine ⟨_, fun y => HEND.out y, ?_⟩; go_big_quiet_on)))
            refine wpQuiet_nil ?_
            intro W hW
            obtain ⟨y, hy⟩ := hW
            have hbW : Below w.heap.size w W := by rw [hy]; exact hb2.trans (y.h.mono (by omega))
            clear hy
            go_wp2
            go_roundw
            case rel => exact ⟨k + 1, by omega, by go_num, HW.out, hbW⟩
            case measure => simp [intOf]; omega
          | true =>
            cases hq4 : (en == 0) with
            | false =>
              have HW : Hid (openTo l i wh (k + 1) = false) := open_pass HSX.out (by rw [HO2.out, HXX.out]; exact (by show (a2 == wh && (x2 == x && (t2 != t && endBy l t2 i == 0))) = false; rw [hq, hq2, hq3, HEN.out, hq4]; rfl))
              go_wp2_with fail
              refine region_later B (by kernel_rfl) (by kernel_rfl) ?_
              repeat (first | go_big_quiet_skip | (go_big_quiet_want; go_big_quiet_op; first | go_big_quiet_on | (refine ⟨_, fun y => HEND.out y, ?_⟩; go_big_quiet_on)))
              refine wpQuiet_nil ?_
              intro W hW
              obtain ⟨y, hy⟩ := hW
              have hbW : Below w.heap.size w W := by rw [hy]; exact hb2.trans (y.h.mono (by omega))
              clear hy
              go_wp2
              go_roundw
              case rel => exact ⟨k + 1, by omega, by go_num, HW.out, hbW⟩
              case measure => simp [intOf]; omega
            | true =>
              have HW : Hid (openB l i wh = true) := by
                refine openTo_mono (show k + 1 ≤ i by omega) ?_
                rw [openTo_succ, HSX.out, HO2.out, HXX.out]
                show (false || (a2 == wh && (x2 == x && (t2 != t && endBy l t2 i == 0)))) = true
                rw [hq, hq2, hq3, HEN.out, hq4]; rfl
              go_wp2_with fail
              refine region_later B (by kernel_rfl) (by kernel_rfl) ?_
              repeat (first | go_big_quiet_skip | (go_big_quiet_want; go_big_quiet_op; first | go_big_quiet_on | (refine ⟨_, fun y => HEND.out y, ?_⟩; go_big_quiet_on)))
              refine wpQuiet_nil ?_
              intro W hW
              obtain ⟨y, hy⟩ := hW
              have hbW : Below w.heap.size w W := by rw [hy]; exact hb2.trans (y.h.mono (by omega))
              clear hy
              go_wp2
              go_ret
              exact ⟨by rw [HW.out]; rfl, hbW⟩
    · have hki' : ¬ (k : Int) < (i : Int) := by omega
      obtain rfl : k = i := by omega
      have HW : Hid (openB l k wh = false) := HSX.out
      go_wp2_with fail
      go_ret
      exact ⟨by rw [HW.out]; rfl, hb2⟩
end Go.Proofs.YtjcaekhkeobhpahDoor
