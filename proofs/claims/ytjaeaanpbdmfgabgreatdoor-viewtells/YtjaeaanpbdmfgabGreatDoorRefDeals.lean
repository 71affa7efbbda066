/-
  PROVED HERE: laneref1.SameDeals tells whether two lists have the same ops of each deal. Old memory stays as it was.
  Conditions: none.
-/
import Derived.Test.YtjaeaanpbdmfgabGreatDoorMgbq
import Derived.Test.YtjaeaanpbdmfgabGreatDoorMgak
namespace Go.Proofs.YtjaeaanpbdmfgabGreatDoor
open Go.RowKit

/-- The same ops of the first deals. -/
def eqTo (h g : List Op3) (n : Nat) : Bool := (List.range n).all fun k => ofL h ((k : Int) + 1) == ofL g ((k : Int) + 1)
theorem eqTo_yes {h g : List Op3} {n : Nat} (h1 : eqTo h g n = true) (h2 : ofL h ((n : Int) + 1) = ofL g ((n : Int) + 1)) : eqTo h g (n + 1) = true := by
  unfold eqTo at h1 ⊢
  rw [List.range_succ, List.all_append, h1]; simp [h2]
theorem eqTo_no {h g : List Op3} {n : Nat} (hn : n < 6) (h2 : ofL h ((n : Int) + 1) ≠ ofL g ((n : Int) + 1)) : eqTo h g 6 = false := by
  cases hb : eqTo h g 6 with
  | false => rfl
  | true =>
    unfold eqTo at hb
    rw [List.all_eq_true] at hb
    have := hb n (List.mem_range.2 hn)
    exact absurd (by simpa using this) h2
theorem eqTo_iff (h g : List Op3) : eqTo h g 6 = true ↔ dealsEq h g := by
  unfold eqTo dealsEq
  rw [List.all_eq_true]
  constructor
  · intro hh t h1 h6
    have := hh (t.toNat - 1) (List.mem_range.2 (by omega))
    rw [show ((t.toNat - 1 : Nat) : Int) + 1 = t by omega] at this
    simpa using this
  · intro hh k hk
    have := List.mem_range.1 hk
    simpa using hh ((k : Int) + 1) (by omega) (by omega)
theorem ne_at {A B : List Op3} {k : Nat} (h : opAt A k ≠ opAt B k) : A ≠ B := fun e => h (by rw [e])
theorem eq_all {A B : List Op3} (hl : A.length = B.length) (h : ∀ k, k < A.length → opAt A k = opAt B k) : A = B := by
  refine List.ext_getElem hl fun n h1 h2 => ?_
  have := h n h1
  simpa [opAt, List.getD, List.getElem?_eq_getElem h1, List.getElem?_eq_getElem h2] using this

set_option maxHeartbeats 8000000 in
theorem sameDeals_any (h g : List Op3) (v u : Value) (w : World) (hI : IsOps w v h) (hJ : IsOps w u g) (hl : h.length ≤ 40) (hl2 : g.length ≤ 40) :
    Calls Tryz.prog 50 #[v, u] w fun e w' => e = .returned (.bool (eqTo h g 6)) ∧ Below w.heap.size w w' := by
  have HI : Hid (∀ W, Below w.heap.size w W → IsOps W v h ∧ IsOps W u g) := fun W hW => ⟨hI.below hW (Nat.le_refl _), hJ.below hW (Nat.le_refl _)⟩
  clear hI hJ
  go_enter Tryz.func50, Tryz.ntmps50
  go_wp2
  go_loopw [5] (fun v5 wr => ∃ i : Nat, i ≤ 6 ∧ v5 = .int .i64 ((i : Int) + 1) ∧ eqTo h g i = true ∧ Below w.heap.size w wr) (fun v5 _ => 7 - (intOf v5).toNat)
  case atStart => exact ⟨0, by omega, rfl, rfl, Below.refl _ _⟩
  case round =>
    obtain ⟨i, hi, rfl, heq, hbel⟩ := hrel
    have HEQ : Hid (eqTo h g i = true) := heq
    clear heq
    by_cases hi6 : i < 6
    · have hi6' : (i : Int) + 1 ≤ 6 := by omega
      go_wp2_with fail
      refine (refOf_any h _ _ _ (HI.out wr hbel).1 (by omega)).mono ?_
      rintro e w1 ⟨v1, rfl, hA1', hb1⟩
      have hA1 : IsOps w1 v1 (ofL h ((i : Int) + 1)) := hA1'
      have hb01 := hbel.trans (hb1.mono hbel.size)
      clear hA1' hb1
      go_wp2_with fail
      refine (refOf_any g _ _ _ (HI.out w1 hb01).2 (by omega)).mono ?_
      rintro e w2 ⟨v2, rfl, hB2', hb2⟩
      have hB2 : IsOps w2 v2 (ofL g ((i : Int) + 1)) := hB2'
      have hA2 := hA1.below hb2 (Nat.le_refl _)
      have hb02 := hb01.trans (hb2.mono hb01.size)
      clear hB2' hb2 hA1
      have hlA : (ofL h ((i : Int) + 1)).length ≤ 40 := Nat.le_trans (List.length_filter_le ..) hl
      have hlB : (ofL g ((i : Int) + 1)).length ≤ 40 := Nat.le_trans (List.length_filter_le ..) hl2
      obtain ⟨A, hA⟩ : ∃ A, ofL h ((i : Int) + 1) = A := ⟨_, rfl⟩
      obtain ⟨B, hB⟩ : ∃ B, ofL g ((i : Int) + 1) = B := ⟨_, rfl⟩
      have HAB : Hid (ofL h ((i : Int) + 1) = A ∧ ofL g ((i : Int) + 1) = B) := ⟨hA, hB⟩
      rw [hA] at hA2 hlA
      rw [hB] at hB2 hlB
      clear hA hB
      obtain ⟨ad, b, off, cap, rfl, ha, _, hbB, hops⟩ := hA2
      obtain ⟨ad2, b2, off2, cap2, rfl, ha2, _, hbB2, hops2⟩ := hB2
      have HO : Hid (∀ k, k < A.length → A.length = B.length → ad = some ⟨b, off, none⟩ ∧ ad2 = some ⟨b2, off2, none⟩ ∧ (w2.cell? ⟨b, off + k * 3, none⟩ = some (.int .i64 (opAt A k).1) ∧ w2.cell? ⟨b, off + k * 3 + 1, none⟩ = some (.int .i64 (opAt A k).2.1) ∧ w2.cell? ⟨b, off + k * 3 + 2, none⟩ = some (.int .i64 (opAt A k).2.2)) ∧ (w2.cell? ⟨b2, off2 + k * 3, none⟩ = some (.int .i64 (opAt B k).1) ∧ w2.cell? ⟨b2, off2 + k * 3 + 1, none⟩ = some (.int .i64 (opAt B k).2.1) ∧ w2.cell? ⟨b2, off2 + k * 3 + 2, none⟩ = some (.int .i64 (opAt B k).2.2))) := fun k hk he => ⟨ha (by omega), ha2 (by omega), hops k hk, hops2 k (by omega)⟩
      clear ha ha2 hbB hbB2 hops hops2
      by_cases hlen : A.length = B.length
      · obtain ⟨n0, hn0⟩ : ∃ n, A.length = n := ⟨_, rfl⟩
        have hn1 : B.length = n0 := by omega
        have HN : Hid (A.length = n0 ∧ B.length = n0) := ⟨hn0, hn1⟩
        rw [hn0] at hlA ⊢
        rw [hn1]
        clear hlen hn0 hn1 hlB
        go_wp2_with fail
        go_loopw [8] (fun v8 wr => ∃ (k m : Nat), k ≤ n0 ∧ v8 = .int .i64 k ∧ (∀ j, j < k → opAt A j = opAt B j) ∧ wr = w2.drewN m) (fun v8 _ => n0 - (intOf v8).toNat)
        case atStart => exact ⟨0, 0, Nat.zero_le _, rfl, fun j hj => absurd hj (by omega), rfl⟩
        case round =>
          obtain ⟨k, m, hk, rfl, hsm, hwr⟩ := hrel
          subst hwr
          have HSM : Hid (∀ j, j < k → opAt A j = opAt B j) := hsm
          clear hsm
          by_cases hlt : k < n0
          · obtain ⟨rfl, rfl, ⟨c0, c1, c2⟩, d0, d1, d2⟩ := HO.out k (by rw [HN.out.1]; exact hlt) (HN.out.1.trans HN.out.2.symm)
            obtain ⟨⟨t, a, x⟩, ho⟩ : ∃ o : Op3, opAt A k = o := ⟨_, rfl⟩
            obtain ⟨⟨t2, a2, x2⟩, ho2⟩ : ∃ o : Op3, opAt B k = o := ⟨_, rfl⟩
            rw [ho] at c0 c1 c2
            rw [ho2] at d0 d1 d2
            simp only at c0 c1 c2 d0 d1 d2
            have HK : Hid (opAt A k = (t, a, x) ∧ opAt B k = (t2, a2, x2)) := ⟨ho, ho2⟩
            clear ho ho2
            by_cases hee : t = t2 ∧ a = a2 ∧ x = x2
            · obtain ⟨rfl, rfl, rfl⟩ := hee
              go_wp2_with fail
              go_quiet (fail)
              go_wp2
              go_roundw
              case rel => exact ⟨k + 1, m + nq, by omega, by go_num, fun j hj => (by rcases Nat.lt_or_ge j k with h1 | h1; exact HSM.out j h1; rw [show j = k by omega, HK.out.1, HK.out.2]), by simp⟩
              case measure => simp [intOf]; omega
            · have HR : Hid (eqTo h g 6 = false) := eqTo_no hi6 (by rw [HAB.out.1, HAB.out.2]; refine ne_at (k := k) ?_; rw [HK.out.1, HK.out.2]; intro he; injection he with e1 e2; injection e2 with e3 e4; exact hee ⟨e1, e3, e4⟩)
              rcases (show t ≠ t2 ∨ (t = t2 ∧ a ≠ a2) ∨ (t = t2 ∧ a = a2 ∧ x ≠ x2) by omega) with h1 | ⟨rfl, h1⟩ | ⟨rfl, rfl, h1⟩
              · have q1 : (t == t2) = false := by simpa using h1
                clear h1 hee
                go_wp2_with fail
                go_quiet (fail)
                go_wp2
                go_ret
                exact ⟨by rw [HR.out]; rfl, below_drewN (below_drewN hb02 _) _⟩
              · have q1 : (a == a2) = false := by simpa using h1
                clear h1 hee
                go_wp2_with fail
                go_quiet (fail)
                go_wp2
                go_ret
                exact ⟨by rw [HR.out]; rfl, below_drewN (below_drewN hb02 _) _⟩
              · have q1 : (x == x2) = false := by simpa using h1
                clear h1 hee
                go_wp2_with fail
                go_quiet (fail)
                go_wp2
                go_ret
                exact ⟨by rw [HR.out]; rfl, below_drewN (below_drewN hb02 _) _⟩
          · have HE : Hid (ofL h ((i : Int) + 1) = ofL g ((i : Int) + 1)) := by
              show ofL h ((i : Int) + 1) = ofL g ((i : Int) + 1)
              rw [HAB.out.1, HAB.out.2]
              exact eq_all (HN.out.1.trans HN.out.2.symm) fun j hj => HSM.out j (by rw [HN.out.1] at hj; omega)
            go_wp2
            go_roundw
            case rel => exact ⟨i + 1, by omega, by go_num, eqTo_yes HEQ.out HE.out, below_drewN hb02 _⟩
            case measure => simp [intOf]; omega
      · have hne : ((A.length : Int) != (B.length : Int)) = true := by simp; omega
        have HR : Hid (eqTo h g 6 = false) := eqTo_no hi6 (by rw [HAB.out.1, HAB.out.2]; intro he; exact hlen (by rw [he]))
        go_wp2
        all_goals first | (exfalso; omega) | skip
        go_ret
        exact ⟨by rw [HR.out]; rfl, hb02⟩
    · have HR : Hid (eqTo h g 6 = true) := by
        have := HEQ.out
        rw [show i = 6 by omega] at this
        exact this
      go_wp2
      go_ret
      exact ⟨by rw [HR.out]; rfl, hbel⟩
end Go.Proofs.YtjaeaanpbdmfgabGreatDoor
