/-
  PROVED HERE: laneref1.End at any place, laneref1.From, laneref1.Open and laneref1.when answer as the plain functions endBy, fromI, openB and whenI say. Old memory stays as it was.
  Conditions: the list is short.
-/
import Derived.Test.YtjaeaanpbdmfgacDoorEnd
import Derived.Test.YtjaeaanpbdmfgacDoorOps
import Derived.Test.YtjaeaanpbdmfgacDoorMgbj
import Derived.Test.YtjaeaanpbdmfgacDoorFacesPlain
namespace Go.Proofs.YtjaeaanpbdmfgacDoor
open Go.RowKit

theorem endBy_pass {h : List Op3} {k i : Nat} {t : Int} (hk : k < i) (hi : i ≤ h.length) (hn : ¬ ((opAt h k).1 = t ∧ 3 ≤ (opAt h k).2.1)) : endOf ((h.take i).drop k) t = endOf ((h.take i).drop (k + 1)) t := by
  have hlt : k < (h.take i).length := by rw [List.length_take]; omega
  rw [List.drop_eq_getElem_cons hlt, endOf_no]
  have e : (h.take i)[k] = opAt h k := by rw [← opAt_get hlt, opAt_take hk]
  rw [e]; exact hn
theorem endBy_hit {h : List Op3} {k i : Nat} {t : Int} (hk : k < i) (hi : i ≤ h.length) (hn : (opAt h k).1 = t ∧ 3 ≤ (opAt h k).2.1) : endOf ((h.take i).drop k) t = (opAt h k).2.1 := by
  have hlt : k < (h.take i).length := by rw [List.length_take]; omega
  have e : (h.take i)[k] = opAt h k := by rw [← opAt_get hlt, opAt_take hk]
  rw [List.drop_eq_getElem_cons hlt, e, endOf_yes hn]
set_option maxHeartbeats 2000000 in
theorem endAt_any (l : List Op3) (v : Value) (t : Int) (i : Nat) (w : World) (hI : IsOps w v l) (hl : l.length ≤ 40) (hi : i ≤ l.length) :
    Calls Tryd.prog 32 #[v, .int .i64 t, .int .i64 i] w fun e w' => e = .returned (.int .i64 (endBy l t i)) ∧ w' = w := by
  obtain ⟨ad, b, off, cap, rfl, ha, -, -, hops⟩ := hI
  have HE : Hid (∀ k, k < l.length → ad = some ⟨b, off, none⟩ ∧ w.cell? ⟨b, off + k * 3, none⟩ = some (.int .i64 (opAt l k).1) ∧ w.cell? ⟨b, off + k * 3 + 1, none⟩ = some (.int .i64 (opAt l k).2.1)) := fun k hk => ⟨ha (by omega), (hops k hk).1, (hops k hk).2.1⟩
  clear ha hops
  go_enter Tryd.func32, Tryd.ntmps32
  go_wp2
  go_loop [7] (fun v7 => ∃ k : Nat, k ≤ i ∧ v7 = .int .i64 k ∧ endOf ((l.take i).drop k) t = endBy l t i) (fun v7 => i - (intOf v7).toNat)
  case atStart => exact ⟨0, Nat.zero_le _, rfl, rfl⟩
  case round =>
    obtain ⟨k, hk, rfl, hck⟩ := hrel
    have HK : Hid (endOf ((l.take i).drop k) t = endBy l t i) := hck
    clear hck
    by_cases hlt : k < i
    · have hlt' : (k : Int) < (i : Int) := by omega
      have hll : (k : Int) < (l.length : Int) := by omega
      obtain ⟨hadr, c0, c1⟩ := HE.out k (by omega)
      subst hadr
      obtain ⟨⟨x, a, q⟩, ho⟩ : ∃ o : Op3, opAt l k = o := ⟨_, rfl⟩
      rw [ho] at c0 c1
      have HO : Hid (opAt l k = (x, a, q)) := ho
      clear ho
      simp only at c0 c1
      by_cases hx : x = t
      · subst hx
        by_cases h3 : 3 ≤ a
        · have HR : Hid (endBy l x i = a) := by show endBy l x i = a; rw [← HK.out, endBy_hit hlt hi (by rw [HO.out]; exact ⟨rfl, h3⟩), HO.out]
          go_wp2
          go_ret
          exact ⟨ret_int HR.out.symm, rfl⟩
        · have HR : Hid (endOf ((l.take i).drop (k + 1)) x = endBy l x i) := by
            show endOf ((l.take i).drop (k + 1)) x = endBy l x i
            rw [← HK.out, endBy_pass hlt hi (by rw [HO.out]; exact fun hh => h3 hh.2)]
          go_wp2
          go_round
          case rel => exact ⟨k + 1, by omega, by go_num, HR.out⟩
          case measure => simp [intOf]; omega
      · have hx' : (x == t) = false := by simpa using hx
        have HR : Hid (endOf ((l.take i).drop (k + 1)) t = endBy l t i) := by
          show endOf ((l.take i).drop (k + 1)) t = endBy l t i
          rw [← HK.out, endBy_pass hlt hi (by rw [HO.out]; exact fun hh => hx hh.1)]
        clear hx
        go_wp2
        go_round
        case rel => exact ⟨k + 1, by omega, by go_num, HR.out⟩
        case measure => simp [intOf]; omega
    · have hlt' : ¬ (k : Int) < (i : Int) := by omega
      have HR : Hid (endBy l t i = 0) := by
        show endBy l t i = 0
        rw [← HK.out, List.drop_of_length_le (by rw [List.length_take]; omega)]; rfl
      go_wp2
      go_ret
      exact ⟨ret_int HR.out.symm, rfl⟩
theorem whenTo_later {h : List Op3} {t : Int} {k : Nat} (hz : whenTo h t k ≠ -1) : ∀ n, whenTo h t (k + n) = whenTo h t k := by
  intro n
  induction n with
  | zero => rfl
  | succ n ih => rw [← Nat.add_assoc, whenTo, ih, if_neg hz]
set_option maxHeartbeats 2000000 in
theorem when_any (l : List Op3) (v : Value) (t : Int) (w : World) (hI : IsOps w v l) (hl : l.length ≤ 40) :
    Calls Tryd.prog 31 #[v, .int .i64 t] w fun e w' => e = .returned (.int .i64 (whenI l t)) ∧ w' = w := by
  obtain ⟨ad, b, off, cap, rfl, ha, -, -, hops⟩ := hI
  have HE : Hid (∀ k, k < l.length → ad = some ⟨b, off, none⟩ ∧ w.cell? ⟨b, off + k * 3, none⟩ = some (.int .i64 (opAt l k).1) ∧ w.cell? ⟨b, off + k * 3 + 1, none⟩ = some (.int .i64 (opAt l k).2.1)) := fun k hk => ⟨ha (by omega), (hops k hk).1, (hops k hk).2.1⟩
  clear ha hops
  go_enter Tryd.func31, Tryd.ntmps31
  go_wp2
  go_loop [5] (fun v5 => ∃ k : Nat, k ≤ l.length ∧ v5 = .int .i64 k ∧ whenTo l t k = -1) (fun v5 => l.length - (intOf v5).toNat)
  case atStart => exact ⟨0, Nat.zero_le _, rfl, rfl⟩
  case round =>
    obtain ⟨k, hk, rfl, hck⟩ := hrel
    have HK : Hid (whenTo l t k = -1) := hck
    clear hck
    by_cases hlt : k < l.length
    · have hlt' : (k : Int) < (l.length : Int) := by omega
      obtain ⟨hadr, c0, c1⟩ := HE.out k hlt
      subst hadr
      obtain ⟨⟨x, a, q⟩, ho⟩ : ∃ o : Op3, opAt l k = o := ⟨_, rfl⟩
      rw [ho] at c0 c1
      have HO : Hid (opAt l k = (x, a, q)) := ho
      clear ho
      simp only at c0 c1
      cases hx : (x == t) with
      | false =>
        have HR : Hid (whenTo l t (k + 1) = -1) := by
          show whenTo l t (k + 1) = -1
          rw [whenTo, if_pos HK.out, if_neg]
          rw [HO.out]; exact fun hh => (show ¬ x = t by simpa using hx) hh.1
        go_wp2
        go_round
        case rel => exact ⟨k + 1, by omega, by go_num, HR.out⟩
        case measure => simp [intOf]; omega
      | true =>
        cases h3 : (a == 3) with
        | false =>
          have HR : Hid (whenTo l t (k + 1) = -1) := by
            show whenTo l t (k + 1) = -1
            rw [whenTo, if_pos HK.out, if_neg]
            rw [HO.out]; exact fun hh => (show ¬ a = 3 by simpa using h3) hh.2
          go_wp2
          go_round
          case rel => exact ⟨k + 1, by omega, by go_num, HR.out⟩
          case measure => simp [intOf]; omega
        | true =>
          have HR : Hid (whenI l t = k) := by
            show whenTo l t l.length = k
            have h1 : whenTo l t (k + 1) = k := by
              rw [whenTo, if_pos HK.out, if_pos]
              rw [HO.out]; exact ⟨by simpa using hx, by simpa using h3⟩
            have h2 := whenTo_later (h := l) (t := t) (k := k + 1) (by rw [h1]; omega) (l.length - (k + 1))
            rw [show k + 1 + (l.length - (k + 1)) = l.length by omega, h1] at h2
            exact h2
          go_wp2
          go_ret
          exact ⟨ret_int HR.out.symm, rfl⟩
    · have hlt' : ¬ (k : Int) < (l.length : Int) := by omega
      have HR : Hid (whenI l t = -1) := by
        show whenTo l t l.length = -1
        rw [← show k = l.length by omega]; exact HK.out
      go_wp2
      go_ret
      exact ⟨ret_int HR.out.symm, rfl⟩
set_option maxHeartbeats 8000000 in
theorem from_any (l : List Op3) (v : Value) (i : Nat) (w : World) (hI : IsOps w v l) (hl : l.length ≤ 40) (hi : i < l.length) :
    Calls Tryd.prog 10 #[v, .int .i64 i] w fun e w' => e = .returned (.int .i64 (fromI l i)) ∧ Below w.heap.size w w' := by
  have HIO : Hid (∀ W, Below w.heap.size w W → IsOps W v l) := fun W hW => hI.below hW (Nat.le_refl _)
  obtain ⟨ad, b, off, cap, rfl, ha, -, hbB, hops⟩ := hI
  have HE : Hid (∀ W, Below w.heap.size w W → ∀ k, k < l.length → ad = some ⟨b, off, none⟩ ∧ b < w.heap.size ∧ W.cell? ⟨b, off + k * 3, none⟩ = some (.int .i64 (opAt l k).1) ∧ W.cell? ⟨b, off + k * 3 + 1, none⟩ = some (.int .i64 (opAt l k).2.1) ∧ W.cell? ⟨b, off + k * 3 + 2, none⟩ = some (.int .i64 (opAt l k).2.2)) := fun W hW k hk => by
    refine ⟨ha (by omega), ?_, (hops.below hW hbB) k hk⟩
    rcases hbB with h | h
    · exact h
    · subst h; simp at hk
  obtain ⟨x, hx⟩ : ∃ x, (opAt l i).2.2 = x := ⟨_, rfl⟩
  have HX : Hid ((opAt l i).2.2 = x) := hx
  have HFI : Hid (fromI l i = fromTo l x i i) := by show fromI l i = _; unfold fromI; rw [hx]
  have hil : (i : Int) < (l.length : Int) := by omega
  clear ha hbB hops hx
  go_enter Tryd.func10, Tryd.ntmps10
  go_wp2_with fail
  go_loopw [5, 6] (fun v5 v6 wr => ∃ k : Nat, k ≤ i ∧ v6 = .int .i64 k ∧ v5 = .int .i64 (fromTo l x i k) ∧ Below w.heap.size w wr) (fun _ v6 _ => i - (intOf v6).toNat)
  case atStart => exact ⟨0, Nat.zero_le _, rfl, rfl, Below.refl _ _⟩
  case round =>
    obtain ⟨k, hk, rfl, rfl, hb2⟩ := hrel
    obtain ⟨sx, hsx⟩ : ∃ sx, fromTo l x i k = sx := ⟨_, rfl⟩
    have HSX : Hid (fromTo l x i k = sx) := hsx
    rw [hsx]
    clear hsx
    have hsz := hb2.size
    by_cases hki : k < i
    · have hki' : (k : Int) < (i : Int) := by omega
      have hkl' : (k : Int) < (l.length : Int) := by omega
      obtain ⟨hadr, hbl, c0, c1, c2⟩ := HE.out wr hb2 k (by omega)
      subst hadr
      obtain ⟨-, -, -, -, d2⟩ := HE.out wr hb2 i hi
      rw [HX.out] at d2
      obtain ⟨⟨t2, a2, x2⟩, ho2⟩ : ∃ o : Op3, opAt l k = o := ⟨_, rfl⟩
      rw [ho2] at c0 c1 c2
      simp only at c0 c1 c2
      have HO2 : Hid (opAt l k = (t2, a2, x2)) := ho2
      clear ho2
      obtain ⟨B, hB1, hB2⟩ : ∃ B, B ≤ wr.heap.size ∧ wr.heap.size ≤ B := ⟨_, Nat.le_refl _, Nat.le_refl _⟩
      have hne : Nonempty (Later B wr) := ⟨⟨wr, Below.refl _ _⟩⟩
      obtain ⟨en, hen⟩ : ∃ en, endBy l t2 i = en := ⟨_, rfl⟩
      have HEN : Hid (endBy l t2 i = en) := hen
      have HEND : Hid (∀ y : Later B wr, Calls Tryd.prog 32 #[.slice (some ⟨b, off, none⟩) l.length cap, .int .i64 t2, .int .i64 i] y.W fun e w' => e = .returned (.int .i64 en) ∧ ∃ z : Later B wr, w' = z.W) := fun y => hen ▸ Later.at y hB1 ((endAt_any l _ t2 i y.W (HIO.out y.W (hb2.trans (y.h.mono (by omega)))) hl (by omega)).mono fun _ _ ⟨he, hw⟩ => ⟨he, by rw [hw]; exact Below.refl _ _⟩)
      have e0 : ∀ y : Later B wr, y.W.cell? ⟨b, off + k * 3, none⟩ = some (.int .i64 t2) := fun y => (y.h.cell (p := ⟨b, off + k * 3, none⟩) (by simp; omega)).trans c0
      have e1 : ∀ y : Later B wr, y.W.cell? ⟨b, off + k * 3 + 1, none⟩ = some (.int .i64 a2) := fun y => (y.h.cell (p := ⟨b, off + k * 3 + 1, none⟩) (by simp; omega)).trans c1
      have e2 : ∀ y : Later B wr, y.W.cell? ⟨b, off + k * 3 + 2, none⟩ = some (.int .i64 x2) := fun y => (y.h.cell (p := ⟨b, off + k * 3 + 2, none⟩) (by simp; omega)).trans c2
      have f2 : ∀ y : Later B wr, y.W.cell? ⟨b, off + i * 3 + 2, none⟩ = some (.int .i64 x) := fun y => (y.h.cell (p := ⟨b, off + i * 3 + 2, none⟩) (by simp; omega)).trans d2
      have HK0 : Hid (∀ y : Later B wr, y.W.cell? ⟨b, off + k * 3, none⟩ = some (.int .i64 t2)) := e0
      clear c0 c1 c2 d2 hen
      cases hq : (a2 == 2) with
      | false =>
        have HW : Hid (fromTo l x i (k + 1) = sx) := by
          show fromTo l x i (k + 1) = sx
          rw [fromTo, if_neg, HSX.out]
          rw [HO2.out]; exact fun hh => (show ¬ a2 = 2 by simpa using hq) hh.1
        go_wp2_with fail
        refine region_later B (by kernel_rfl) (by kernel_rfl) ?_
        repeat (first | go_big_quiet_skip | (go_big_quiet_want; go_big_quiet_op; first | go_big_quiet_on | (refine ⟨_, fun y => HEND.out y, ?_⟩; go_big_quiet_on)))
        refine wpQuiet_nil ?_
        intro W hW
        obtain ⟨y, hy⟩ := hW
        have hbW : Below w.heap.size w W := by rw [hy]; exact hb2.trans (y.h.mono (by omega))
        clear hy
        go_wp2
        go_roundw
        case rel => exact ⟨k + 1, by omega, by go_num, by rw [HW.out], hbW⟩
        case measure => simp [intOf]; omega
      | true =>
        cases hq2 : (x2 == x) with
        | false =>
          have HW : Hid (fromTo l x i (k + 1) = sx) := by
            show fromTo l x i (k + 1) = sx
            rw [fromTo, if_neg, HSX.out]
            rw [HO2.out]; exact fun hh => (show ¬ x2 = x by simpa using hq2) hh.2.1
          go_wp2_with fail
          refine region_later B (by kernel_rfl) (by kernel_rfl) ?_
          repeat (first | go_big_quiet_skip | (go_big_quiet_want; go_big_quiet_op; first | go_big_quiet_on | (refine ⟨_, fun y => HEND.out y, ?_⟩; go_big_quiet_on)))
          refine wpQuiet_nil ?_
          intro W hW
          obtain ⟨y, hy⟩ := hW
          have hbW : Below w.heap.size w W := by rw [hy]; exact hb2.trans (y.h.mono (by omega))
          clear hy
          go_wp2
          go_roundw
          case rel => exact ⟨k + 1, by omega, by go_num, by rw [HW.out], hbW⟩
          case measure => simp [intOf]; omega
        | true =>
          cases hq4 : (en != 4) with
          | false =>
            have HW : Hid (fromTo l x i (k + 1) = sx) := by
              show fromTo l x i (k + 1) = sx
              rw [fromTo, if_neg, HSX.out]
              rw [HO2.out]; exact fun hh => hh.2.2 (by show endBy l t2 i = 4; rw [HEN.out]; simpa using hq4)
            go_wp2_with fail
            refine region_later B (by kernel_rfl) (by kernel_rfl) ?_
            repeat (first | go_big_quiet_skip | (go_big_quiet_want; go_big_quiet_op; first | go_big_quiet_on | (refine ⟨_, fun y => HEND.out y, ?_⟩; go_big_quiet_on)))
            refine wpQuiet_nil ?_
            intro W hW
            obtain ⟨y, hy⟩ := hW
            have hbW : Below w.heap.size w W := by rw [hy]; exact hb2.trans (y.h.mono (by omega))
            clear hy
            go_wp2
            go_roundw
            case rel => exact ⟨k + 1, by omega, by go_num, by rw [HW.out], hbW⟩
            case measure => simp [intOf]; omega
          | true =>
            have HW : Hid (fromTo l x i (k + 1) = t2) := by
              show fromTo l x i (k + 1) = t2
              rw [fromTo, if_pos, HO2.out]
              rw [HO2.out]; exact ⟨by simpa using hq, by simpa using hq2, by show endBy l t2 i ≠ 4; rw [HEN.out]; simpa using hq4⟩
            go_wp2_with fail
            refine region_later B (by kernel_rfl) (by kernel_rfl) ?_
            repeat (first | go_big_quiet_skip | (go_big_quiet_want; go_big_quiet_op; first | go_big_quiet_on | (refine ⟨_, fun y => HEND.out y, ?_⟩; go_big_quiet_on)))
            refine wpQuiet_nil ?_
            intro W hW
            obtain ⟨y, hy⟩ := hW
            have hbW : Below w.heap.size w W := by rw [hy]; exact hb2.trans (y.h.mono (by omega))
            have g0 : W.cell? ⟨b, off + k * 3, none⟩ = some (.int .i64 t2) := by rw [hy]; exact HK0.out y
            clear hy
            go_wp2
            go_roundw
            case rel => exact ⟨k + 1, by omega, by go_num, by rw [HW.out], hbW⟩
            case measure => simp [intOf]; omega
    · have hki' : ¬ (k : Int) < (i : Int) := by omega
      obtain rfl : k = i := by omega
      go_wp2_with fail
      go_ret
      exact ⟨by rw [HFI.out, HSX.out]; rfl, hb2⟩
end Go.Proofs.YtjaeaanpbdmfgacDoor
