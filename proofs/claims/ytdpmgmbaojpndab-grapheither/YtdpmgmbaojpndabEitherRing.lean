/-
  PROVED HERE: lanelaw1.GraphEither returns true for edges that have a ring; so it returns true for any edges.
  Conditions: none.
-/
import Derived.Test.YtdpmgmbaojpndabEitherWalk
namespace Go.Proofs.Ytdpmgmbaojpndab
open Go.RowKit

theorem any_take_snoc {q : Edge2 → Bool} {l : List Edge2} {k : Nat} (hk : k < l.length) : (l.take (k + 1)).any q = ((l.take k).any q || q (l.getD k (0, 0))) := by
  rw [List.take_succ_eq_append_getElem hk, List.any_append]
  simp [List.getD, List.getElem?_eq_getElem hk]
def edgeB (x y : Nat) (e : Edge2) : Bool := e.1 == (x : Int) && e.2 == (y : Int)

set_option maxHeartbeats 8000000 in
set_option maxRecDepth 100000 in
theorem either_ring (l : List Edge2) (v : Value) (w : World) (hI : IsEdges w v l) (hc : gchk l = 0) (ho : orderL l = none) (r : List Nat) (hr : ringL l = some r) (hR : IsRing (stepsS l) r) (hr1 : 1 ≤ r.length) (hr6 : r.length ≤ 6) :
    Calls Try.prog 3 #[v] w fun e w' => e = .returned (.bool true) ∧ Below w.heap.size w w' := by
  have HI : Hid (∀ W, Below w.heap.size w W → IsEdges W v l) := fun W hW => hI.below hW (Nat.le_refl _)
  have HC : Hid (gchk l = 0) := hc
  have HO : Hid (orderL l = none ∧ ringL l = some r ∧ IsRing (stepsS l) r) := ⟨ho, hr, hR⟩
  have HD : Hid (Right l) := gchk_deal hc
  have HST : Hid (∀ W W', Below w.heap.size w W → Below W.heap.size W W' → Below w.heap.size w W') := fun W W' h1 h2 => h1.trans (h2.mono h1.size)
  have hl := gchk_len hc
  obtain ⟨ad, b, off, cap, rfl, ha, -, hbB, hops⟩ := hI
  have HE : Hid (∀ W, Below w.heap.size w W → ∀ k, k < l.length → ad = some ⟨b, off, none⟩ ∧ W.cell? ⟨b, off + k * 2, none⟩ = some (.int .i64 (l.getD k (0, 0)).1) ∧ W.cell? ⟨b, off + k * 2 + 1, none⟩ = some (.int .i64 (l.getD k (0, 0)).2)) := fun W hW k hk => ⟨ha (by omega), (hops.below hW hbB) k hk⟩
  clear ha hbB hops hc ho hr hR
  go_enter Try.func3, Try.ntmps3
  go_wp2_with fail
  refine (order_fact _ _ (by simp)).mono ?_
  rintro e w1 ⟨b1, o1, cap1, rfl, q0, q1, hb1⟩
  go_wp2_with fail
  refine (order_none l _ _ (HI.out _ hb1) HC.out HO.out.1).mono ?_
  rintro e w2 ⟨rfl, hb2⟩
  have hb02 := HST.out _ _ hb1 hb2
  clear q0 q1 hb2 hb1
  go_wp2_with fail
  refine (ring_some l _ _ (HI.out _ hb02) HC.out r HO.out.2.1).mono ?_
  rintro e w3 ⟨v7, rfl, hI7, hb3⟩
  have hb03 := HST.out _ _ hb02 hb3
  clear hb02 hb3
  go_wp2_with fail
  refine (gcheck_ok l _ _ (HI.out _ hb03) HC.out).mono ?_
  rintro e w4 ⟨rfl, hb4⟩
  have hb04 := HST.out _ _ hb03 hb4
  have hI74 := hI7.below hb4 (Nat.le_refl _)
  clear hI7 hb03 hb4
  obtain ⟨rn, hrn⟩ : ∃ rn, r.length = rn := ⟨_, rfl⟩
  have HRN : Hid (r.length = rn) := hrn
  obtain ⟨ad7, b7, off7, cap7, hv7, ha7, -, hbB7, hc7⟩ := hI74
  rw [List.length_map] at hv7 ha7 hc7
  rw [hrn] at hv7 ha7 hc7 hr1 hr6
  subst hv7
  have hadr7 := ha7 (by omega)
  subst hadr7
  have hb7 : b7 < w4.heap.size := by
    rcases hbB7 with h | h
    · exact h
    · have := congrArg List.length h
      rw [List.length_map, hrn] at this
      simp at this
      omega
  have HV : Hid (∀ W, Below w4.heap.size w4 W → ∀ k, k < rn → W.cell? ⟨b7, off7 + k, none⟩ = some (.int .i64 ((r.getD k 0 : Nat) : Int)) ∧ (1 ≤ r.getD k 0 ∧ r.getD k 0 ≤ 6)) := fun W hW k hk => by
    have hk' : k < r.length := by omega
    refine ⟨(hW.cell (p := ⟨b7, off7 + k, none⟩) hb7).trans ?_, HO.out.2.2.deal _ (by simp [List.getD, List.getElem?_eq_getElem hk'])⟩
    rw [hc7 k hk]
    simp [List.getD, List.getElem?_eq_getElem hk']
  clear ha7 hbB7 hc7 hrn
  have g1 : ¬ (rn : Int) < 1 := by omega
  have g6 : ¬ (6 : Int) < (rn : Int) := by omega
  go_wp2_with fail
  go_quiet (fail)
  go_wp2_with fail
  go_loopw [12] (fun v12 wr => ∃ i : Nat, i ≤ rn ∧ v12 = .int .i64 i ∧ Below w4.heap.size w4 wr) (fun v12 _ => rn - (intOf v12).toNat)
  case atStart => exact ⟨0, Nat.zero_le _, rfl, below_drewN (Below.refl _ w4) _⟩
  case round =>
    obtain ⟨i, hi, rfl, hbel⟩ := hrel
    by_cases hlt : i < rn
    · obtain ⟨x, hx⟩ : ∃ x, r.getD i 0 = x := ⟨_, rfl⟩
      obtain ⟨y, hy⟩ : ∃ y, r.getD ((i + 1) % rn) 0 = y := ⟨_, rfl⟩
      have hjl : (i + 1) % rn < rn := Nat.mod_lt _ (by omega)
      obtain ⟨j, hj⟩ : ∃ j, (i + 1) % rn = j := ⟨_, rfl⟩
      have HXY : Hid (stepsS l x y = true ∧ Way (stepsS l) x x) := by
        have h1 := HO.out.2.2.edge i (by rw [HRN.out]; exact hlt)
        have h2 := HO.out.2.2.round i (by rw [HRN.out]; exact hlt)
        rw [HRN.out, hx, hy] at h1
        rw [hx] at h2
        exact ⟨h1, h2⟩
      have HW : Hid (∀ W, Below w4.heap.size w4 W → W.cell? ⟨b7, off7 + i, none⟩ = some (.int .i64 (x : Int)) ∧ W.cell? ⟨b7, off7 + j, none⟩ = some (.int .i64 (y : Int))) := fun W hW => by
        have h1 := (HV.out W hW i hlt).1
        have h2 := (HV.out W hW _ hjl).1
        rw [hx] at h1
        rw [hy, hj] at h2
        exact ⟨h1, h2⟩
      have hx6 := (HV.out w4 (Below.refl _ _) i hlt).2
      rw [hx] at hx6
      rw [hj] at hjl
      have HX6 : Hid (dealB (x : Int) = true) := dealB_iff.2 (by omega)
      have hmod : ((i : Int) + 1) % (rn : Int) = (j : Int) := by
        rw [← hj]; simp
      clear hx hy hj hx6
      go_wp2_with fail
      go_loopw [13, 14] (fun v13 v14 wr => ∃ k : Nat, k ≤ l.length ∧ v13 = .bool ((l.take k).any (edgeB x y)) ∧ v14 = .int .i64 k ∧ Below w4.heap.size w4 wr) (fun _ v14 _ => l.length - (intOf v14).toNat)
      case atStart => exact ⟨0, Nat.zero_le _, rfl, rfl, hbel⟩
      case round =>
        clear hbel
        obtain ⟨k, hk, rfl, rfl, hbel⟩ := hrel
        obtain ⟨c7, c8⟩ := HW.out wr hbel
        have hb0 := HST.out _ _ hb04 hbel
        by_cases hkl : k < l.length
        · obtain ⟨hadr, c0, c1⟩ := HE.out wr hb0 k hkl
          subst hadr
          have HSN : Hid ((l.take (k + 1)).any (edgeB x y) = ((l.take k).any (edgeB x y) || edgeB x y (l.getD k (0, 0)))) := any_take_snoc hkl
          obtain ⟨⟨t, a⟩, hta⟩ : ∃ e : Edge2, l.getD k (0, 0) = e := ⟨_, rfl⟩
          rw [hta] at c0 c1
          simp only at c0 c1
          have HTA : Hid (edgeB x y (l.getD k (0, 0)) = (t == (x : Int) && a == (y : Int))) := by
            show edgeB x y (l.getD k (0, 0)) = _
            rw [hta]; rfl
          clear hta
          cases hh : (l.take k).any (edgeB x y) with
          | true =>
            have HQ : Hid ((l.take (k + 1)).any (edgeB x y) = true) := by show (l.take (k + 1)).any (edgeB x y) = true; rw [HSN.out, hh]; rfl
            clear hh
            go_wp2_with fail
            go_quiet (fail)
            go_wp2_with fail
            go_roundw
            case rel => exact ⟨k + 1, by omega, by rw [HQ.out], by go_num, below_drewN hbel _⟩
            case measure => simp [intOf]; omega
          | false =>
            cases ht : (t == (x : Int)) with
            | false =>
              have HQ : Hid ((l.take (k + 1)).any (edgeB x y) = false) := by show (l.take (k + 1)).any (edgeB x y) = false; rw [HSN.out, hh, HTA.out, ht]; rfl
              clear hh
              go_wp2_with fail
              go_quiet (fail)
              go_wp2_with fail
              go_roundw
              case rel => exact ⟨k + 1, by omega, by rw [HQ.out], by go_num, below_drewN hbel _⟩
              case measure => simp [intOf]; omega
            | true =>
              have HQ : Hid ((l.take (k + 1)).any (edgeB x y) = (a == (y : Int))) := by show (l.take (k + 1)).any (edgeB x y) = _; rw [HSN.out, hh, HTA.out, ht]; rfl
              clear hh
              go_wp2_with fail
              go_quiet (fail)
              go_wp2_with fail
              go_roundw
              case rel => exact ⟨k + 1, by omega, by rw [HQ.out], by go_num, below_drewN hbel _⟩
              case measure => simp [intOf]; omega
        · have HANY : Hid ((l.take k).any (edgeB x y) = true) := by
            show (l.take k).any (edgeB x y) = true
            rw [List.take_of_length_le (by omega)]
            exact List.any_eq_true.2 ⟨_, mem_steps HXY.out.1, by simp [edgeB]⟩
          rw [HANY.out]
          clear HANY
          obtain ⟨B, hB1, hB2⟩ : ∃ B, B ≤ wr.heap.size ∧ wr.heap.size ≤ B := ⟨_, Nat.le_refl _, Nat.le_refl _⟩
          have hne : Nonempty (Later B wr) := ⟨⟨wr, Below.refl _ _⟩⟩
          have hsz := hbel.size
          have e0 : ∀ y : Later B wr, y.W.cell? ⟨b7, off7 + i, none⟩ = some (.int .i64 (x : Int)) := fun y => (y.h.cell (p := ⟨b7, off7 + i, none⟩) (by simp; omega)).trans c7
          have HCALL : Hid (∀ y : Later B wr, Calls Try.prog 7 #[.slice ad l.length cap, .int .i64 (x : Int), .int .i64 (x : Int)] y.W fun e w' => e = .returned (.tuple #[.bool true, .nilIface]) ∧ ∃ z : Later B wr, w' = z.W) := fun y => Later.at y hB1 (reach_yes l _ x x y.W (HI.out _ (hb0.trans (y.h.mono (by have := hb0.size; omega)))) HC.out HX6.out HX6.out HXY.out.2)
          clear c7 c8
          go_wp2_with fail
          refine region_later B (by kernel_rfl) (by kernel_rfl) ?_
          repeat (first | go_big_quiet_skip | (go_big_quiet_want; go_big_quiet_op; first | go_big_quiet_on | (refine ⟨_, fun y => HCALL.out y, ?_⟩; go_big_quiet_on)))
          refine wpQuiet_nil ?_
          intro W hW
          obtain ⟨z, hz⟩ := hW
          have hbW : Below w4.heap.size w4 W := by rw [hz]; exact hbel.trans (z.h.mono (by omega))
          clear hz z e0 HCALL hne
          go_wp2_with fail
          go_roundw
          case rel => exact ⟨i + 1, by omega, by go_num, hbW⟩
          case measure => simp [intOf]; omega
    · have hb0 := HST.out _ _ hb04 hbel
      go_wp2_with fail
      go_ret
      exact ⟨rfl, hb0⟩
theorem either_any (l : List Edge2) (v : Value) (w : World) (hI : IsEdges w v l) :
    Calls Try.prog 3 #[v] w fun e w' => e = .returned (.bool true) ∧ Below w.heap.size w w' := by
  by_cases hc : gchk l = 0
  · rcases graph_either (gchk_deal hc) with ⟨o, h1, h2, h3⟩ | ⟨h1, r, h2, h3, h4, h5⟩
    · exact either_order l v w hI hc o h1 h2 h3
    · exact either_ring l v w hI hc h1 r h2 h3 h4 h5
  · exact either_bad l v w hI hc
end Go.Proofs.Ytdpmgmbaojpndab
