/-
  PROVED HERE: lanelaw1.GraphEither returns true for any edges that are wrong, and for those that have an order.
  Conditions: none.
-/
import Derived.Test.YtdpmgmbaojpndabGraphCalls
import Derived.Test.YtdpmgmbaojpndabGraphEitherPlain
namespace Go.Proofs.Ytdpmgmbaojpndab
open Go.RowKit

theorem fact_order : orderL [(2, 1)] = some [2, 1] := by decide
theorem fact_gchk : gchk [(2, 1)] = 0 := by decide
theorem order_fact (w : World) (b : Nat) (hb : b = w.heap.size) :
    Calls Try.prog 4 #[.slice (some ⟨b, 0, none⟩) 1 1] (w.alloc (.cells #[.int .i64 2, .int .i64 1] 29)) fun e w' => ∃ b' o' c', e = .returned (.tuple #[.slice (some ⟨b', o', none⟩) 2 c', .nilIface]) ∧ w'.cell? ⟨b', o', none⟩ = some (.int .i64 2) ∧ w'.cell? ⟨b', o' + 1, none⟩ = some (.int .i64 1) ∧ Below w.heap.size w w' := by
  subst hb
  refine (order_any [(2, 1)] (.slice (some ⟨w.heap.size, 0, none⟩) 1 1) _ ⟨some ⟨w.heap.size, 0, none⟩, w.heap.size, 0, 1, rfl, fun _ => rfl, fun h => (by cases h), .inl (by simp), fun i hi => ?_⟩ fact_gchk).mono ?_
  · have : i = 0 := by simp at hi; omega
    subst this
    simp
  · rintro e w' ⟨⟨o, v', ho, rfl, hI, _⟩ | ⟨hn, _⟩, hb'⟩
    · rw [fact_order] at ho
      obtain rfl := (Option.some.inj ho).symm
      obtain ⟨ad, b', o', c', rfl, ha, _, _, hc⟩ := hI
      obtain rfl := ha (by simp)
      have h0 := hc 0 (by simp)
      have h1 := hc 1 (by simp)
      exact ⟨b', o', c', rfl, by simpa using h0, by simpa using h1, ((Below.refl _ w).alloc (Nat.le_refl _) _).trans (hb'.mono (by simp))⟩
    · rw [fact_order] at hn; cases hn

set_option maxHeartbeats 4000000 in
set_option maxRecDepth 100000 in
theorem either_bad (l : List Edge2) (v : Value) (w : World) (hI : IsEdges w v l) (hc : gchk l ≠ 0) :
    Calls Try.prog 3 #[v] w fun e w' => e = .returned (.bool true) ∧ Below w.heap.size w w' := by
  have HI : Hid (∀ W, Below w.heap.size w W → IsEdges W v l) := fun W hW => hI.below hW (Nat.le_refl _)
  have HC : Hid (gchk l ≠ 0) := hc
  have HST : Hid (∀ W W', Below w.heap.size w W → Below W.heap.size W W' → Below w.heap.size w W') := fun W W' h1 h2 => h1.trans (h2.mono h1.size)
  clear hI hc
  go_enter Try.func3, Try.ntmps3
  go_wp2_with fail
  refine (order_fact _ _ (by simp)).mono ?_
  rintro e w1 ⟨b1, o1, cap1, rfl, q0, q1, hb1⟩
  go_wp2_with fail
  refine (order_bad l _ _ (HI.out _ hb1) HC.out).mono ?_
  rintro e w2 ⟨rfl, hb2⟩
  have hb02 := HST.out _ _ hb1 hb2
  clear q0 q1 hb2 hb1
  go_wp2_with fail
  refine (ring_bad l _ _ (HI.out _ hb02) HC.out).mono ?_
  rintro e w3 ⟨rfl, hb3⟩
  have hb03 := HST.out _ _ hb02 hb3
  go_wp2_with fail
  refine (gcheck_bad l _ _ (HI.out _ hb03) HC.out).mono ?_
  rintro e w4 ⟨rfl, hb4⟩
  have hb04 := HST.out _ _ hb03 hb4
  go_wp2_with fail
  go_ret
  exact ⟨rfl, hb04⟩

/-- A row of values in a block. -/
def ValsAt (w : World) (b n : Nat) (f : Nat → Int) : Prop := ∀ k, k < n → w.cell? ⟨b, k, none⟩ = some (.int .i64 (f k)) ∧ w.frozen? ⟨b, k, none⟩ = false
def setI (f : Nat → Int) (t : Nat) (x : Int) : Nat → Int := fun k => if k = t then x else f k
theorem ValsAt.drewN {w : World} {b n m : Nat} {f : Nat → Int} (h : ValsAt w b n f) : ValsAt (w.drewN m) b n f := h
theorem ValsAt.set {w : World} {b n t : Nat} {f : Nat → Int} (h : ValsAt w b n f) (x : Int) : ValsAt (w.setCell ⟨b, t, none⟩ (.int .i64 x)) b n (setI f t x) := fun k hk => by
  rw [World.frozen?_setCell]
  refine ⟨?_, (h k hk).2⟩
  unfold setI
  by_cases e : k = t
  · subst e; rw [if_pos rfl]; exact World.cell?_setCell_same _ _ _ (h k hk).1
  · rw [if_neg e, World.cell?_setCell_other _ _ _ _ (by simp <;> omega)]; exact (h k hk).1
theorem vals_zero (w : World) (T : TypeId) : ValsAt (w.alloc (.cells #[.int .i64 0, .int .i64 0, .int .i64 0, .int .i64 0, .int .i64 0, .int .i64 0, .int .i64 0] T)) w.heap.size 7 (fun _ => 0) := fun k hk => by
  rw [World.cell?_alloc_new, World.frozen?_alloc_new]
  refine ⟨?_, rfl⟩
  rcases (show k = 0 ∨ k = 1 ∨ k = 2 ∨ k = 3 ∨ k = 4 ∨ k = 5 ∨ k = 6 by omega) with h | h | h | h | h | h | h <;> subst h <;> rfl
/-- The places of the first i of a list. -/
structure Places (o : List Int) (i : Nat) (f : Nat → Int) : Prop where
  at' : ∀ (j t : Nat), j < i → o[j]? = some (t : Int) → f t = (j : Int) + 1
  from' : ∀ t, f t ≠ 0 → ∃ j, j < i ∧ o[j]? = some (t : Int)
theorem places_zero (o : List Int) : Places o 0 (fun _ => 0) := ⟨fun j _ h => absurd h (by omega), fun _ h => absurd rfl h⟩
theorem Places.new {o : List Int} {i t : Nat} {f : Nat → Int} (h : Places o i f) (hn : o.Nodup) (hi : o[i]? = some (t : Int)) : f t = 0 := by
  by_cases h0 : f t = 0
  · exact h0
  · obtain ⟨j, hj, h2⟩ := h.from' t h0
    have := nodup_at hn h2 hi
    omega
theorem Places.next {o : List Int} {i t : Nat} {f : Nat → Int} (h : Places o i f) (hn : o.Nodup) (hi : o[i]? = some (t : Int)) : Places o (i + 1) (setI f t ((i : Int) + 1)) := by
  refine ⟨fun j u hj hu => ?_, fun u hu => ?_⟩
  · unfold setI
    by_cases e : u = t
    · subst e
      rw [if_pos rfl, nodup_at hn hu hi]
    · rw [if_neg e]
      rcases Nat.lt_or_ge j i with h1 | h1
      · exact h.at' j u h1 hu
      · have : j = i := by omega
        subst this
        rw [hi] at hu
        have := Option.some.inj hu
        omega
  · unfold setI at hu
    by_cases e : u = t
    · subst e; exact ⟨i, by omega, hi⟩
    · rw [if_neg e] at hu
      obtain ⟨j, h1, h2⟩ := h.from' u hu
      exact ⟨j, by omega, h2⟩

set_option maxHeartbeats 8000000 in
set_option maxRecDepth 100000 in
theorem either_order (l : List Edge2) (v : Value) (w : World) (hI : IsEdges w v l) (hc : gchk l = 0) (o : List Int) (ho : orderL l = some o) (hO : IsOrder l o) (hn : ringL l = none) :
    Calls Try.prog 3 #[v] w fun e w' => e = .returned (.bool true) ∧ Below w.heap.size w w' := by
  have HI : Hid (∀ W, Below w.heap.size w W → IsEdges W v l) := fun W hW => hI.below hW (Nat.le_refl _)
  have HC : Hid (gchk l = 0) := hc
  have HO : Hid (orderL l = some o ∧ IsOrder l o ∧ ringL l = none) := ⟨ho, hO, hn⟩
  have HD : Hid (Right l) := gchk_deal hc
  have HST : Hid (∀ W W', Below w.heap.size w W → Below W.heap.size W W' → Below w.heap.size w W') := fun W W' h1 h2 => h1.trans (h2.mono h1.size)
  have hl := gchk_len hc
  obtain ⟨ad, b, off, cap, rfl, ha, -, hbB, hops⟩ := hI
  have HE : Hid (∀ W, Below w.heap.size w W → ∀ k, k < l.length → ad = some ⟨b, off, none⟩ ∧ W.cell? ⟨b, off + k * 2, none⟩ = some (.int .i64 (l.getD k (0, 0)).1) ∧ W.cell? ⟨b, off + k * 2 + 1, none⟩ = some (.int .i64 (l.getD k (0, 0)).2)) := fun W hW k hk => ⟨ha (by omega), (hops.below hW hbB) k hk⟩
  clear ha hbB hops hc ho hO hn
  go_enter Try.func3, Try.ntmps3
  go_wp2_with fail
  refine (order_fact _ _ (by simp)).mono ?_
  rintro e w1 ⟨b1, o1, cap1, rfl, q0, q1, hb1⟩
  go_wp2_with fail
  refine (order_some l _ _ (HI.out _ hb1) HC.out o HO.out.1).mono ?_
  rintro e w2 ⟨v5, rfl, hI5, hlen, hb2⟩
  have hb02 := HST.out _ _ hb1 hb2
  clear q0 q1 hb2 hb1
  go_wp2_with fail
  refine (ring_no l _ _ (HI.out _ hb02) HC.out HO.out.2.2).mono ?_
  rintro e w3 ⟨rfl, hb3⟩
  have hb03 := HST.out _ _ hb02 hb3
  have hI53 := hI5.below hb3 (Nat.le_refl _)
  clear hI5 hb02 hb3
  go_wp2_with fail
  refine (gcheck_ok l _ _ (HI.out _ hb03) HC.out).mono ?_
  rintro e w4 ⟨rfl, hb4⟩
  have hb04 := HST.out _ _ hb03 hb4
  have hI54 := hI53.below hb4 (Nat.le_refl _)
  clear hI53 hb03 hb4
  obtain ⟨ad5, b5, off5, cap5, rfl, ha5, -, hbB5, hc5⟩ := hI54
  have HV : Hid (∀ W, Below w4.heap.size w4 W → ∀ k, k < o.length → ad5 = some ⟨b5, off5, none⟩ ∧ W.cell? ⟨b5, off5 + k, none⟩ = some (.int .i64 (o.getD k 0)) ∧ b5 < w4.heap.size) := fun W hW k hk => by
    have hb5 : b5 < w4.heap.size := by
      rcases hbB5 with h | h
      · exact h
      · subst h; simp at hk
    exact ⟨ha5 (by omega), (hW.cell (p := ⟨b5, off5 + k, none⟩) hb5).trans (hc5 k hk), hb5⟩
  clear ha5 hbB5 hc5
  go_wp2_with fail
  go_quiet (fail)
  go_wp2_with fail
  go_loopw [10] (fun v10 wr => ∃ (i : Nat) (f : Nat → Int), i ≤ o.length ∧ v10 = .int .i64 i ∧ Places o i f ∧ ValsAt wr w4.heap.size 7 f ∧ Below w4.heap.size w4 wr) (fun v10 _ => o.length - (intOf v10).toNat)
  case atStart => exact ⟨0, fun _ => 0, Nat.zero_le _, rfl, places_zero o, vals_zero (w4.drewN nq) _, (below_drewN (Below.refl _ w4) nq).alloc (by simp) _⟩
  case round =>
    obtain ⟨i, f, hi, rfl, hP, hV, hbel⟩ := hrel
    have HP : Hid (Places o i f) := hP
    have HVA : Hid (ValsAt wr w4.heap.size 7 f) := hV
    clear hP hV
    have hsz := hbel.size
    have hBl : w4.heap.size < wr.heap.size := by
      have := World.block_lt_of_cell? wr _ (HVA.out 0 (by omega)).1
      simpa using this
    by_cases hlt : i < o.length
    · obtain ⟨hadr, c0, hb5⟩ := HV.out wr hbel i hlt
      subst hadr
      obtain ⟨t, ht⟩ : ∃ t : Nat, o.getD i 0 = (t : Int) ∧ 1 ≤ t ∧ t ≤ 6 := by
        obtain ⟨t, a, b, c⟩ := HO.out.2.1.deal (o.getD i 0) (by simp [List.getD, List.getElem?_eq_getElem hlt])
        exact ⟨t, a, b, c⟩
      obtain ⟨hto, ht1, ht6⟩ := ht
      have HOI : Hid (o[i]? = some (t : Int)) := by
        show o[i]? = some (t : Int)
        rw [← hto]; simp [List.getD, List.getElem?_eq_getElem hlt]
      rw [hto] at c0
      clear hto
      obtain ⟨d0, z0⟩ := HVA.out t (by omega)
      rw [HP.out.new HO.out.2.1.once HOI.out] at d0
      have t1 : ¬ (t : Int) < 1 := by omega
      have t6 : ¬ (6 : Int) < (t : Int) := by omega
      have t7 : (t : Int) < 7 := by omega
      have hne5 : b5 ≠ w4.heap.size := by omega
      go_wp2_with fail
      go_roundw
      case rel => exact ⟨i + 1, setI f t ((i : Int) + 1), by omega, by go_num, HP.out.next HO.out.2.1.once HOI.out, HVA.out.set _, hbel.setCell (Nat.le_refl _) _⟩
      case measure => simp [intOf]; omega
    · have HPL : Hid (Places o o.length f) := by have h1 := HP.out; rw [show i = o.length by omega] at h1; exact h1
      have hb0 := HST.out _ _ hb04 hbel
      clear HP hbel hb04
      go_wp2_with fail
      go_loopw [11] (fun v11 wr => ∃ k : Nat, k ≤ l.length ∧ v11 = .int .i64 k ∧ ValsAt wr w4.heap.size 7 f ∧ Below w.heap.size w wr) (fun v11 _ => l.length - (intOf v11).toNat)
      case atStart => exact ⟨0, Nat.zero_le _, rfl, HVA.out, hb0⟩
      case round =>
        clear HVA hb0 hsz hBl
        obtain ⟨k, hk, rfl, hV, hbel⟩ := hrel
        have HVA : Hid (ValsAt wr w4.heap.size 7 f) := hV
        clear hV
        by_cases hkl : k < l.length
        · obtain ⟨hadr, c0, c1⟩ := HE.out wr hbel k hkl
          subst hadr
          obtain ⟨x, y, he, hx, hy⟩ := HD.out.nat (show l.getD k (0, 0) ∈ l by simp [List.getD, List.getElem?_eq_getElem hkl])
          have hmem : ((x : Int), (y : Int)) ∈ l := by rw [← he]; simp [List.getD, List.getElem?_eq_getElem hkl]
          rw [he] at c0 c1
          simp only at c0 c1
          obtain ⟨i', j', hij, hxi, hyj⟩ := HO.out.2.1.back x y hmem
          obtain ⟨d0, -⟩ := HVA.out x (by omega)
          obtain ⟨d1, -⟩ := HVA.out y (by omega)
          rw [HPL.out.at' i' x (List.getElem?_eq_some_iff.1 hxi).1 hxi] at d0
          rw [HPL.out.at' j' y (List.getElem?_eq_some_iff.1 hyj).1 hyj] at d1
          have x7 : (x : Int) < 7 := by omega
          have y7 : (y : Int) < 7 := by omega
          have e0 : ((i' : Int) + 1 == 0) = false := by simp; omega
          have e1 : ¬ ((j' : Int) + 1 ≤ (i' : Int) + 1) := by omega
          clear he hmem hxi hyj
          go_wp2_with fail
          go_quiet (fail)
          go_wp2_with fail
          go_roundw
          case rel => exact ⟨k + 1, by omega, by go_num, HVA.out.drewN, below_drewN hbel _⟩
          case measure => simp [intOf]; omega
        · go_wp2_with fail
          go_ret
          exact ⟨rfl, hbel⟩
end Go.Proofs.Ytdpmgmbaojpndab
