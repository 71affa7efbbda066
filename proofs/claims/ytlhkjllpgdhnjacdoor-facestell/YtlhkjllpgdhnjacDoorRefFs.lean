/-
  PROVED HERE: laneref1.End at any place, laneref1.From, laneref1.Open and laneref1.when answer as the plain functions endBy, fromI, openB and whenI say. Old memory stays as it was.
  Conditions: the list is short.
  PROVED HERE: laneref1.Open answers as the plain function openB says. Old memory stays as it was.
  Conditions: the list is short.
  PROVED HERE: laneref1.Faces answers as the plain functions recB, cauB, strB and rigB say. Old memory stays as it was.
  Conditions: the list is short.
-/
import Derived.Test.YtlhkjllpgdhnjacDoorEnd
import Derived.Test.YtlhkjllpgdhnjacDoorOps
import Derived.Test.YtlhkjllpgdhnjacDoorRegion
import Derived.Test.YtlhkjllpgdhnjacDoorFacesPlain
import Derived.Deep.Cut
import Derived.Deep.CutRange
import Derived.Laws.Rows
namespace Go.Proofs.YtlhkjllpgdhnjacDoor
open Go.RowKit

theorem endBy_pass {h : List Op3} {k i : Nat} {t : Int} (hk : k < i) (hi : i ≤ h.length) (hn : ¬ ((opAt h k).1 = t ∧ 3 ≤ (opAt h k).2.1)) : endOf ((h.take i).drop k) t = endOf ((h.take i).drop (k + 1)) t := by
  have hlt : k < (h.take i).length := by rw [List.length_take]; omega
  rw [List.drop_eq_getElem_cons hlt, endOf_no]
  have e : (h.take i)[k] = opAt h k := by rw [← opAt_get hlt, opAt_take hk]
  rw [e]; exact hn
theorem endBy_hit {h : List Op3} {k i : Nat} {t : Int} (hk : k < i) (hi : i ≤ h.length) (hn : (opAt h k).1 = t ∧ 3 ≤ (opAt h k).2.1) : endOf ((h.take i).drop k) t = (opAt h k).2.1 := by
  have hlt : k < (h.take i).length := by rw [List.length_take]; omega
  have e : (h.take i)[k] = opAt h k := by rw [← opAt_get hlt, opAt_take hk]
  rw [List.drop_eq_getElem_cons hlt, e, endOf_yes hn]
set_option maxHeartbeats 2000000 in
theorem endAt_any (l : List Op3) (v : Value) (t : Int) (i : Nat) (w : World) (hI : IsOps w v l) (hl : l.length ≤ 40) (hi : i ≤ l.length) :
    Calls Tryd.prog 32 #[v, .int .i64 t, .int .i64 i] w fun e w' => e = .returned (.int .i64 (endBy l t i)) ∧ w' = w := by
  obtain ⟨ad, b, off, cap, rfl, ha, -, -, hops⟩ := hI
  have HE : Hid (∀ k, k < l.length → ad = some ⟨b, off, none⟩ ∧ w.cell? ⟨b, off + k * 3, none⟩ = some (.int .i64 (opAt l k).1) ∧ w.cell? ⟨b, off + k * 3 + 1, none⟩ = some (.int .i64 (opAt l k).2.1)) := fun k hk => ⟨ha (by omega), (hops k hk).1, (hops k hk).2.1⟩
  clear ha hops
  go_enter Tryd.func32, Tryd.ntmps32
  go_wp2
  go_loop [7] (fun v7 => ∃ k : Nat, k ≤ i ∧ v7 = .int .i64 k ∧ endOf ((l.take i).drop k) t = endBy l t i) (fun v7 => i - (intOf v7).toNat)
  case atStart => exact ⟨0, Nat.zero_le _, rfl, rfl⟩
  case round =>
    obtain ⟨k, hk, rfl, hck⟩ := hrel
    have HK : Hid (endOf ((l.take i).drop k) t = endBy l t i) := hck
    clear hck
    by_cases hlt : k < i
    · have hlt' : (k : Int) < (i : Int) := by omega
      have hll : (k : Int) < (l.length : Int) := by omega
      obtain ⟨hadr, c0, c1⟩ := HE.out k (by omega)
      subst hadr
      obtain ⟨⟨x, a, q⟩, ho⟩ : ∃ o : Op3, opAt l k = o := ⟨_, rfl⟩
      rw [ho] at c0 c1
      have HO : Hid (opAt l k = (x, a, q)) := ho
      clear ho
      simp only at c0 c1
      by_cases hx : x = t
      · subst hx
        by_cases h3 : 3 ≤ a
        · have HR : Hid (endBy l x i = a) := by show endBy l x i = a; rw [← HK.out, endBy_hit hlt hi (by rw [HO.out]; exact ⟨rfl, h3⟩), HO.out]
          go_wp2
          go_ret
          exact ⟨ret_int HR.out.symm, rfl⟩
        · have HR : Hid (endOf ((l.take i).drop (k + 1)) x = endBy l x i) := by
            show endOf ((l.take i).drop (k + 1)) x = endBy l x i
            rw [← HK.out, endBy_pass hlt hi (by rw [HO.out]; exact fun hh => h3 hh.2)]
          go_wp2
          go_round
          case rel => exact ⟨k + 1, by omega, by go_num, HR.out⟩
          case measure => simp [intOf]; omega
      · have hx' : (x == t) = false := by simpa using hx
        have HR : Hid (endOf ((l.take i).drop (k + 1)) t = endBy l t i) := by
          show endOf ((l.take i).drop (k + 1)) t = endBy l t i
          rw [← HK.out, endBy_pass hlt hi (by rw [HO.out]; exact fun hh => hx hh.1)]
        clear hx
        go_wp2
        go_round
        case rel => exact ⟨k + 1, by omega, by go_num, HR.out⟩
        case measure => simp [intOf]; omega
    · have hlt' : ¬ (k : Int) < (i : Int) := by omega
      have HR : Hid (endBy l t i = 0) := by
        show endBy l t i = 0
        rw [← HK.out, List.drop_of_length_le (by rw [List.length_take]; omega)]; rfl
      go_wp2
      go_ret
      exact ⟨ret_int HR.out.symm, rfl⟩
theorem whenTo_later {h : List Op3} {t : Int} {k : Nat} (hz : whenTo h t k ≠ -1) : ∀ n, whenTo h t (k + n) = whenTo h t k := by
  intro n
  induction n with
  | zero => rfl
  | succ n ih => rw [← Nat.add_assoc, whenTo, ih, if_neg hz]
set_option maxHeartbeats 2000000 in
theorem when_any (l : List Op3) (v : Value) (t : Int) (w : World) (hI : IsOps w v l) (hl : l.length ≤ 40) :
    Calls Tryd.prog 31 #[v, .int .i64 t] w fun e w' => e = .returned (.int .i64 (whenI l t)) ∧ w' = w := by
  obtain ⟨ad, b, off, cap, rfl, ha, -, -, hops⟩ := hI
  have HE : Hid (∀ k, k < l.length → ad = some ⟨b, off, none⟩ ∧ w.cell? ⟨b, off + k * 3, none⟩ = some (.int .i64 (opAt l k).1) ∧ w.cell? ⟨b, off + k * 3 + 1, none⟩ = some (.int .i64 (opAt l k).2.1)) := fun k hk => ⟨ha (by omega), (hops k hk).1, (hops k hk).2.1⟩
  clear ha hops
  go_enter Tryd.func31, Tryd.ntmps31
  go_wp2
  go_loop [5] (fun v5 => ∃ k : Nat, k ≤ l.length ∧ v5 = .int .i64 k ∧ whenTo l t k = -1) (fun v5 => l.length - (intOf v5).toNat)
  case atStart => exact ⟨0, Nat.zero_le _, rfl, rfl⟩
  case round =>
    obtain ⟨k, hk, rfl, hck⟩ := hrel
    have HK : Hid (whenTo l t k = -1) := hck
    clear hck
    by_cases hlt : k < l.length
    · have hlt' : (k : Int) < (l.length : Int) := by omega
      obtain ⟨hadr, c0, c1⟩ := HE.out k hlt
      subst hadr
      obtain ⟨⟨x, a, q⟩, ho⟩ : ∃ o : Op3, opAt l k = o := ⟨_, rfl⟩
      rw [ho] at c0 c1
      have HO : Hid (opAt l k = (x, a, q)) := ho
      clear ho
      simp only at c0 c1
      cases hx : (x == t) with
      | false =>
        have HR : Hid (whenTo l t (k + 1) = -1) := by
          show whenTo l t (k + 1) = -1
          rw [whenTo, if_pos HK.out, if_neg]
          rw [HO.out]; exact fun hh => (show ¬ x = t by simpa using hx) hh.1
        go_wp2
        go_round
        case rel => exact ⟨k + 1, by omega, by go_num, HR.out⟩
        case measure => simp [intOf]; omega
      | true =>
        cases h3 : (a == 3) with
        | false =>
          have HR : Hid (whenTo l t (k + 1) = -1) := by
            show whenTo l t (k + 1) = -1
            rw [whenTo, if_pos HK.out, if_neg]
            rw [HO.out]; exact fun hh => (show ¬ a = 3 by simpa using h3) hh.2
          go_wp2
          go_round
          case rel => exact ⟨k + 1, by omega, by go_num, HR.out⟩
          case measure => simp [intOf]; omega
        | true =>
          have HR : Hid (whenI l t = k) := by
            show whenTo l t l.length = k
            have h1 : whenTo l t (k + 1) = k := by
              rw [whenTo, if_pos HK.out, if_pos]
              rw [HO.out]; exact ⟨by simpa using hx, by simpa using h3⟩
            have h2 := whenTo_later (h := l) (t := t) (k := k + 1) (by rw [h1]; omega) (l.length - (k + 1))
            rw [show k + 1 + (l.length - (k + 1)) = l.length by omega, h1] at h2
            exact h2
          go_wp2
          go_ret
          exact ⟨ret_int HR.out.symm, rfl⟩
    · have hlt' : ¬ (k : Int) < (l.length : Int) := by omega
      have HR : Hid (whenI l t = -1) := by
        show whenTo l t l.length = -1
        rw [← show k = l.length by omega]; exact HK.out
      go_wp2
      go_ret
      exact ⟨ret_int HR.out.symm, rfl⟩
set_option maxHeartbeats 8000000 in
theorem from_any (l : List Op3) (v : Value) (i : Nat) (w : World) (hI : IsOps w v l) (hl : l.length ≤ 40) (hi : i < l.length) :
    Calls Tryd.prog 10 #[v, .int .i64 i] w fun e w' => e = .returned (.int .i64 (fromI l i)) ∧ Below w.heap.size w w' := by
  have HIO : Hid (∀ W, Below w.heap.size w W → IsOps W v l) := fun W hW => hI.below hW (Nat.le_refl _)
  obtain ⟨ad, b, off, cap, rfl, ha, -, hbB, hops⟩ := hI
  have HE : Hid (∀ W, Below w.heap.size w W → ∀ k, k < l.length → ad = some ⟨b, off, none⟩ ∧ b < w.heap.size ∧ W.cell? ⟨b, off + k * 3, none⟩ = some (.int .i64 (opAt l k).1) ∧ W.cell? ⟨b, off + k * 3 + 1, none⟩ = some (.int .i64 (opAt l k).2.1) ∧ W.cell? ⟨b, off + k * 3 + 2, none⟩ = some (.int .i64 (opAt l k).2.2)) := fun W hW k hk => by
    refine ⟨ha (by omega), ?_, (hops.below hW hbB) k hk⟩
    rcases hbB with h | h
    · exact h
    · subst h; simp at hk
  obtain ⟨x, hx⟩ : ∃ x, (opAt l i).2.2 = x := ⟨_, rfl⟩
  have HX : Hid ((opAt l i).2.2 = x) := hx
  have HFI : Hid (fromI l i = fromTo l x i i) := by show fromI l i = _; unfold fromI; rw [hx]
  have hil : (i : Int) < (l.length : Int) := by omega
  clear ha hbB hops hx
  go_enter Tryd.func10, Tryd.ntmps10
  go_wp2_with fail
  go_loopw [5, 6] (fun v5 v6 wr => ∃ k : Nat, k ≤ i ∧ v6 = .int .i64 k ∧ v5 = .int .i64 (fromTo l x i k) ∧ Below w.heap.size w wr) (fun _ v6 _ => i - (intOf v6).toNat)
  case atStart => exact ⟨0, Nat.zero_le _, rfl, rfl, Below.refl _ _⟩
  case round =>
    obtain ⟨k, hk, rfl, rfl, hb2⟩ := hrel
    obtain ⟨sx, hsx⟩ : ∃ sx, fromTo l x i k = sx := ⟨_, rfl⟩
    have HSX : Hid (fromTo l x i k = sx) := hsx
    rw [hsx]
    clear hsx
    have hsz := hb2.size
    by_cases hki : k < i
    · have hki' : (k : Int) < (i : Int) := by omega
      have hkl' : (k : Int) < (l.length : Int) := by omega
      obtain ⟨hadr, hbl, c0, c1, c2⟩ := HE.out wr hb2 k (by omega)
      subst hadr
      obtain ⟨-, -, -, -, d2⟩ := HE.out wr hb2 i hi
      rw [HX.out] at d2
      obtain ⟨⟨t2, a2, x2⟩, ho2⟩ : ∃ o : Op3, opAt l k = o := ⟨_, rfl⟩
      rw [ho2] at c0 c1 c2
      simp only at c0 c1 c2
      have HO2 : Hid (opAt l k = (t2, a2, x2)) := ho2
      clear ho2
      obtain ⟨B, hB1, hB2⟩ : ∃ B, B ≤ wr.heap.size ∧ wr.heap.size ≤ B := ⟨_, Nat.le_refl _, Nat.le_refl _⟩
      have hne : Nonempty (Later B wr) := ⟨⟨wr, Below.refl _ _⟩⟩
      obtain ⟨en, hen⟩ : ∃ en, endBy l t2 i = en := ⟨_, rfl⟩
      have HEN : Hid (endBy l t2 i = en) := hen
      have HEND : Hid (∀ y : Later B wr, Calls Tryd.prog 32 #[.slice (some ⟨b, off, none⟩) l.length cap, .int .i64 t2, .int .i64 i] y.W fun e w' => e = .returned (.int .i64 en) ∧ ∃ z : Later B wr, w' = z.W) := fun y => hen ▸ Later.at y hB1 ((endAt_any l _ t2 i y.W (HIO.out y.W (hb2.trans (y.h.mono (by omega)))) hl (by omega)).mono fun _ _ ⟨he, hw⟩ => ⟨he, by rw [hw]; exact Below.refl _ _⟩)
      have e0 : ∀ y : Later B wr, y.W.cell? ⟨b, off + k * 3, none⟩ = some (.int .i64 t2) := fun y => (y.h.cell (p := ⟨b, off + k * 3, none⟩) (by simp; omega)).trans c0
      have e1 : ∀ y : Later B wr, y.W.cell? ⟨b, off + k * 3 + 1, none⟩ = some (.int .i64 a2) := fun y => (y.h.cell (p := ⟨b, off + k * 3 + 1, none⟩) (by simp; omega)).trans c1
      have e2 : ∀ y : Later B wr, y.W.cell? ⟨b, off + k * 3 + 2, none⟩ = some (.int .i64 x2) := fun y => (y.h.cell (p := ⟨b, off + k * 3 + 2, none⟩) (by simp; omega)).trans c2
      have f2 : ∀ y : Later B wr, y.W.cell? ⟨b, off + i * 3 + 2, none⟩ = some (.int .i64 x) := fun y => (y.h.cell (p := ⟨b, off + i * 3 + 2, none⟩) (by simp; omega)).trans d2
      have HK0 : Hid (∀ y : Later B wr, y.W.cell? ⟨b, off + k * 3, none⟩ = some (.int .i64 t2)) := e0
      clear c0 c1 c2 d2 hen
      cases hq : (a2 == 2) with
      | false =>
        have HW : Hid (fromTo l x i (k + 1) = sx) := by
          show fromTo l x i (k + 1) = sx
          rw [fromTo, if_neg, HSX.out]
          rw [HO2.out]; exact fun hh => (show ¬ a2 = 2 by simpa using hq) hh.1
        go_wp2_with fail
        refine region_later B (by kernel_rfl) (by kernel_rfl) ?_
        repeat (first | go_big_quiet_skip | (go_big_quiet_want; go_big_quiet_op; first | go_big_quiet_on | (refine ⟨_, fun y => HEND.out y, ?_⟩; go_big_quiet_on)))
        refine wpQuiet_nil ?_
        intro W hW
        obtain ⟨y, hy⟩ := hW
        have hbW : Below w.heap.size w W := by rw [hy]; exact hb2.trans (y.h.mono (by omega))
        clear hy
        go_wp2
        go_roundw
        case rel => exact ⟨k + 1, by omega, by go_num, by rw [HW.out], hbW⟩
        case measure => simp [intOf]; omega
      | true =>
        cases hq2 : (x2 == x) with
        | false =>
          have HW : Hid (fromTo l x i (k + 1) = sx) := by
            show fromTo l x i (k + 1) = sx
            rw [fromTo, if_neg, HSX.out]
            rw [HO2.out]; exact fun hh => (show ¬ x2 = x by simpa using hq2) hh.2.1
          go_wp2_with fail
          refine region_later B (by kernel_rfl) (by kernel_rfl) ?_
          repeat (first | go_big_quiet_skip | (go_big_quiet_want; go_big_quiet_op; first | go_big_quiet_on | (refine ⟨_, fun y => HEND.out y, ?_⟩; go_big_quiet_on)))
          refine wpQuiet_nil ?_
          intro W hW
          obtain ⟨y, hy⟩ := hW
          have hbW : Below w.heap.size w W := by rw [hy]; exact hb2.trans (y.h.mono (by omega))
          clear hy
          go_wp2
          go_roundw
          case rel => exact ⟨k + 1, by omega, by go_num, by rw [HW.out], hbW⟩
          case measure => simp [intOf]; omega
        | true =>
          cases hq4 : (en != 4) with
          | false =>
            have HW : Hid (fromTo l x i (k + 1) = sx) := by
              show fromTo l x i (k + 1) = sx
              rw [fromTo, if_neg, HSX.out]
              rw [HO2.out]; exact fun hh => hh.2.2 (by show endBy l t2 i = 4; rw [HEN.out]; simpa using hq4)
            go_wp2_with fail
            refine region_later B (by kernel_rfl) (by kernel_rfl) ?_
            repeat (first | go_big_quiet_skip | (go_big_quiet_want; go_big_quiet_op; first | go_big_quiet_on | (refine ⟨_, fun y => HEND.out y, ?_⟩; go_big_quiet_on)))
            refine wpQuiet_nil ?_
            intro W hW
            obtain ⟨y, hy⟩ := hW
            have hbW : Below w.heap.size w W := by rw [hy]; exact hb2.trans (y.h.mono (by omega))
            clear hy
            go_wp2
            go_roundw
            case rel => exact ⟨k + 1, by omega, by go_num, by rw [HW.out], hbW⟩
            case measure => simp [intOf]; omega
          | true =>
            have HW : Hid (fromTo l x i (k + 1) = t2) := by
              show fromTo l x i (k + 1) = t2
              rw [fromTo, if_pos, HO2.out]
              rw [HO2.out]; exact ⟨by simpa using hq, by simpa using hq2, by show endBy l t2 i ≠ 4; rw [HEN.out]; simpa using hq4⟩
            go_wp2_with fail
            refine region_later B (by kernel_rfl) (by kernel_rfl) ?_
            repeat (first | go_big_quiet_skip | (go_big_quiet_want; go_big_quiet_op; first | go_big_quiet_on | (refine ⟨_, fun y => HEND.out y, ?_⟩; go_big_quiet_on)))
            refine wpQuiet_nil ?_
            intro W hW
            obtain ⟨y, hy⟩ := hW
            have hbW : Below w.heap.size w W := by rw [hy]; exact hb2.trans (y.h.mono (by omega))
            have g0 : W.cell? ⟨b, off + k * 3, none⟩ = some (.int .i64 t2) := by rw [hy]; exact HK0.out y
            clear hy
            go_wp2
            go_roundw
            case rel => exact ⟨k + 1, by omega, by go_num, by rw [HW.out], hbW⟩
            case measure => simp [intOf]; omega
    · have hki' : ¬ (k : Int) < (i : Int) := by omega
      obtain rfl : k = i := by omega
      go_wp2_with fail
      go_ret
      exact ⟨by rw [HFI.out, HSX.out]; rfl, hb2⟩
end Go.Proofs.YtlhkjllpgdhnjacDoor

namespace Go.Proofs.YtlhkjllpgdhnjacDoor
open Go.RowKit

theorem openTo_succ (h : List Op3) (i : Nat) (what : Int) (k : Nat) : openTo h i what (k + 1) = (openTo h i what k || ((opAt h k).2.1 == what && ((opAt h k).2.2 == (opAt h i).2.2 && ((opAt h k).1 != (opAt h i).1 && endBy h (opAt h k).1 i == 0)))) := by
  unfold openTo
  rw [List.range_succ, List.any_append]
  simp
theorem open_pass {h : List Op3} {i : Nat} {what : Int} {k : Nat} (h0 : openTo h i what k = false) (hn : ((opAt h k).2.1 == what && ((opAt h k).2.2 == (opAt h i).2.2 && ((opAt h k).1 != (opAt h i).1 && endBy h (opAt h k).1 i == 0))) = false) : openTo h i what (k + 1) = false := by
  rw [openTo_succ, h0, hn]; rfl
theorem openTo_mono {h : List Op3} {i : Nat} {what : Int} {k n : Nat} (hkn : k ≤ n) (h0 : openTo h i what k = true) : openTo h i what n = true := by
  unfold openTo at h0 ⊢
  obtain ⟨m, m1, m2⟩ := List.any_eq_true.1 h0
  exact List.any_eq_true.2 ⟨m, List.mem_range.2 (by have := List.mem_range.1 m1; omega), m2⟩
set_option maxHeartbeats 8000000 in
theorem open_any (l : List Op3) (v : Value) (i : Nat) (wh : Int) (w : World) (hI : IsOps w v l) (hl : l.length ≤ 40) (hi : i < l.length) :
    Calls Tryd.prog 33 #[v, .int .i64 i, .int .i64 wh] w fun e w' => e = .returned (.bool (openB l i wh)) ∧ Below w.heap.size w w' := by
  have HIO : Hid (∀ W, Below w.heap.size w W → IsOps W v l) := fun W hW => hI.below hW (Nat.le_refl _)
  obtain ⟨ad, b, off, cap, rfl, ha, -, hbB, hops⟩ := hI
  have HE : Hid (∀ W, Below w.heap.size w W → ∀ k, k < l.length → ad = some ⟨b, off, none⟩ ∧ b < w.heap.size ∧ W.cell? ⟨b, off + k * 3, none⟩ = some (.int .i64 (opAt l k).1) ∧ W.cell? ⟨b, off + k * 3 + 1, none⟩ = some (.int .i64 (opAt l k).2.1) ∧ W.cell? ⟨b, off + k * 3 + 2, none⟩ = some (.int .i64 (opAt l k).2.2)) := fun W hW k hk => by
    refine ⟨ha (by omega), ?_, (hops.below hW hbB) k hk⟩
    rcases hbB with h | h
    · exact h
    · subst h; simp at hk
  obtain ⟨⟨t, a, x⟩, hx⟩ : ∃ o : Op3, opAt l i = o := ⟨_, rfl⟩
  have HXX : Hid (opAt l i = (t, a, x)) := hx
  have hil : (i : Int) < (l.length : Int) := by omega
  clear ha hbB hops hx
  go_enter Tryd.func33, Tryd.ntmps33
  go_wp2_with fail
  go_loopw [7] (fun v7 wr => ∃ k : Nat, k ≤ i ∧ v7 = .int .i64 k ∧ openTo l i wh k = false ∧ Below w.heap.size w wr) (fun v7 _ => i - (intOf v7).toNat)
  case atStart => exact ⟨0, Nat.zero_le _, rfl, rfl, Below.refl _ _⟩
  case round =>
    obtain ⟨k, hk, rfl, hsx, hb2⟩ := hrel
    have HSX : Hid (openTo l i wh k = false) := hsx
    clear hsx
    have hsz := hb2.size
    by_cases hki : k < i
    · have hki' : (k : Int) < (i : Int) := by omega
      have hkl' : (k : Int) < (l.length : Int) := by omega
      obtain ⟨hadr, hbl, c0, c1, c2⟩ := HE.out wr hb2 k (by omega)
      subst hadr
      obtain ⟨-, -, d0, -, d2⟩ := HE.out wr hb2 i hi
      rw [HXX.out] at d0 d2
      obtain ⟨⟨t2, a2, x2⟩, ho2⟩ : ∃ o : Op3, opAt l k = o := ⟨_, rfl⟩
      rw [ho2] at c0 c1 c2
      simp only at c0 c1 c2 d0 d2
      have HO2 : Hid (opAt l k = (t2, a2, x2)) := ho2
      clear ho2
      obtain ⟨B, hB1, hB2⟩ : ∃ B, B ≤ wr.heap.size ∧ wr.heap.size ≤ B := ⟨_, Nat.le_refl _, Nat.le_refl _⟩
      have hne : Nonempty (Later B wr) := ⟨⟨wr, Below.refl _ _⟩⟩
      obtain ⟨en, hen⟩ : ∃ en, endBy l t2 i = en := ⟨_, rfl⟩
      have HEN : Hid (endBy l t2 i = en) := hen
      have HEND : Hid (∀ y : Later B wr, Calls Tryd.prog 32 #[.slice (some ⟨b, off, none⟩) l.length cap, .int .i64 t2, .int .i64 i] y.W fun e w' => e = .returned (.int .i64 en) ∧ ∃ z : Later B wr, w' = z.W) := fun y => hen ▸ Later.at y hB1 ((endAt_any l _ t2 i y.W (HIO.out y.W (hb2.trans (y.h.mono (by omega)))) hl (by omega)).mono fun _ _ ⟨he, hw⟩ => ⟨he, by rw [hw]; exact Below.refl _ _⟩)
      have e0 : ∀ y : Later B wr, y.W.cell? ⟨b, off + k * 3, none⟩ = some (.int .i64 t2) := fun y => (y.h.cell (p := ⟨b, off + k * 3, none⟩) (by simp; omega)).trans c0
      have e1 : ∀ y : Later B wr, y.W.cell? ⟨b, off + k * 3 + 1, none⟩ = some (.int .i64 a2) := fun y => (y.h.cell (p := ⟨b, off + k * 3 + 1, none⟩) (by simp; omega)).trans c1
      have e2 : ∀ y : Later B wr, y.W.cell? ⟨b, off + k * 3 + 2, none⟩ = some (.int .i64 x2) := fun y => (y.h.cell (p := ⟨b, off + k * 3 + 2, none⟩) (by simp; omega)).trans c2
      have f0 : ∀ y : Later B wr, y.W.cell? ⟨b, off + i * 3, none⟩ = some (.int .i64 t) := fun y => (y.h.cell (p := ⟨b, off + i * 3, none⟩) (by simp; omega)).trans d0
      have f2 : ∀ y : Later B wr, y.W.cell? ⟨b, off + i * 3 + 2, none⟩ = some (.int .i64 x) := fun y => (y.h.cell (p := ⟨b, off + i * 3 + 2, none⟩) (by simp; omega)).trans d2
      clear c0 c1 c2 d0 d2 hen
      cases hq : (a2 == wh) with
      | false =>
        have HW : Hid (openTo l i wh (k + 1) = false) := open_pass HSX.out (by rw [HO2.out, HXX.out]; exact (by show (a2 == wh && _) = false; rw [hq]; rfl))
        go_wp2_with fail
        refine region_later B (by kernel_rfl) (by kernel_rfl) ?_
        repeat (first | go_big_quiet_skip | (go_big_quiet_want; go_big_quiet_op; first | go_big_quiet_on | (refine ⟨_, fun y => HEND.out y, ?_⟩; go_big_quiet_on)))
        refine wpQuiet_nil ?_
        intro W hW
        obtain ⟨y, hy⟩ := hW
        have hbW : Below w.heap.size w W := by rw [hy]; exact hb2.trans (y.h.mono (by omega))
        clear hy
        go_wp2
        go_roundw
        case rel => exact ⟨k + 1, by omega, by go_num, HW.out, hbW⟩
        case measure => simp [intOf]; omega
      | true =>
        cases hq2 : (x2 == x) with
        | false =>
          have HW : Hid (openTo l i wh (k + 1) = false) := open_pass HSX.out (by rw [HO2.out, HXX.out]; exact (by show (a2 == wh && (x2 == x && _)) = false; rw [hq, hq2]; rfl))
          go_wp2_with fail
          refine region_later B (by kernel_rfl) (by kernel_rfl) ?_
          repeat (first | go_big_quiet_skip | (go_big_quiet_want; go_big_quiet_op; first | go_big_quiet_on | (refine ⟨_, fun y => HEND.out y, ?_⟩; go_big_quiet_on)))
          refine wpQuiet_nil ?_
          intro W hW
          obtain ⟨y, hy⟩ := hW
          have hbW : Below w.heap.size w W := by rw [hy]; exact hb2.trans (y.h.mono (by omega))
          clear hy
          go_wp2
          go_roundw
          case rel => exact ⟨k + 1, by omega, by go_num, HW.out, hbW⟩
          case measure => simp [intOf]; omega
        | true =>
          cases hq3 : (t2 != t) with
          | false =>
            have HW : Hid (openTo l i wh (k + 1) = false) := open_pass HSX.out (by rw [HO2.out, HXX.out]; exact (by show (a2 == wh && (x2 == x && (t2 != t && _))) = false; rw [hq, hq2, hq3]; rfl))
            go_wp2_with fail
            refine region_later B (by kernel_rfl) (by kernel_rfl) ?_
            repeat (first | go_big_quiet_skip | (go_big_quiet_want; go_big_quiet_op; first | go_big_quiet_on | (refine ⟨_, fun y => HEND.out y, ?_⟩; go_big_quiet_on)))
            refine wpQuiet_nil ?_
            intro W hW
            obtain ⟨y, hy⟩ := hW
            have hbW : Below w.heap.size w W := by rw [hy]; exact hb2.trans (y.h.mono (by omega))
            clear hy
            go_wp2
            go_roundw
            case rel => exact ⟨k + 1, by omega, by go_num, HW.out, hbW⟩
            case measure => simp [intOf]; omega
          | true =>
            cases hq4 : (en == 0) with
            | false =>
              have HW : Hid (openTo l i wh (k + 1) = false) := open_pass HSX.out (by rw [HO2.out, HXX.out]; exact (by show (a2 == wh && (x2 == x && (t2 != t && endBy l t2 i == 0))) = false; rw [hq, hq2, hq3, HEN.out, hq4]; rfl))
              go_wp2_with fail
              refine region_later B (by kernel_rfl) (by kernel_rfl) ?_
              repeat (first | go_big_quiet_skip | (go_big_quiet_want; go_big_quiet_op; first | go_big_quiet_on | (refine ⟨_, fun y => HEND.out y, ?_⟩; go_big_quiet_on)))
              refine wpQuiet_nil ?_
              intro W hW
              obtain ⟨y, hy⟩ := hW
              have hbW : Below w.heap.size w W := by rw [hy]; exact hb2.trans (y.h.mono (by omega))
              clear hy
              go_wp2
              go_roundw
              case rel => exact ⟨k + 1, by omega, by go_num, HW.out, hbW⟩
              case measure => simp [intOf]; omega
            | true =>
              have HW : Hid (openB l i wh = true) := by
                refine openTo_mono (show k + 1 ≤ i by omega) ?_
                rw [openTo_succ, HSX.out, HO2.out, HXX.out]
                show (false || (a2 == wh && (x2 == x && (t2 != t && endBy l t2 i == 0)))) = true
                rw [hq, hq2, hq3, HEN.out, hq4]; rfl
              go_wp2_with fail
              refine region_later B (by kernel_rfl) (by kernel_rfl) ?_
              repeat (first | go_big_quiet_skip | (go_big_quiet_want; go_big_quiet_op; first | go_big_quiet_on | (refine ⟨_, fun y => HEND.out y, ?_⟩; go_big_quiet_on)))
              refine wpQuiet_nil ?_
              intro W hW
              obtain ⟨y, hy⟩ := hW
              have hbW : Below w.heap.size w W := by rw [hy]; exact hb2.trans (y.h.mono (by omega))
              clear hy
              go_wp2
              go_ret
              exact ⟨by rw [HW.out]; rfl, hbW⟩
    · have hki' : ¬ (k : Int) < (i : Int) := by omega
      obtain rfl : k = i := by omega
      have HW : Hid (openB l k wh = false) := HSX.out
      go_wp2_with fail
      go_ret
      exact ⟨by rw [HW.out]; rfl, hb2⟩
end Go.Proofs.YtlhkjllpgdhnjacDoor

namespace Go.Proofs.YtlhkjllpgdhnjacDoor
open Go.RowKit

def allTo (p : Nat → Bool) (k : Nat) : Bool := (List.range k).all p
theorem allTo_succ (p : Nat → Bool) (k : Nat) : allTo p (k + 1) = (allTo p k && p k) := by
  unfold allTo
  rw [List.range_succ, List.all_append]
  simp
/-- Four bools in a block. -/
def FacesAt (w : World) (b : Nat) (p q r s : Bool) : Prop := w.heap[b]? = some (.cells #[.bool p, .bool q, .bool r, .bool s] 34 (0, 0))
theorem FacesAt.lt {w : World} {b : Nat} {p q r s : Bool} (h : FacesAt w b p q r s) : b < w.heap.size := by
  have h' : w.heap[b]? = some _ := h
  exact (Array.getElem?_eq_some_iff.1 h').1
theorem FacesAt.below {w w1 : World} {b B : Nat} {p q r s : Bool} (h : FacesAt w b p q r s) (hb : Below B w w1) (hB : b < B) : FacesAt w1 b p q r s := (hb.block b hB).trans h
theorem FacesAt.far {w : World} {b : Nat} {p q r s : Bool} (h : FacesAt w b p q r s) {a : Addr} (v : Value) (hp : b ≠ a.block) : FacesAt (w.setCell a v) b p q r s := (Below.heap_setCell w a v b hp).trans h
theorem FacesAt.cells {w : World} {b : Nat} {p q r s : Bool} (h : FacesAt w b p q r s) : w.cell? ⟨b, 0, none⟩ = some (.bool p) ∧ w.cell? ⟨b, 1, none⟩ = some (.bool q) ∧ w.cell? ⟨b, 2, none⟩ = some (.bool r) ∧ w.cell? ⟨b, 3, none⟩ = some (.bool s) :=
  ⟨by rw [cell_of_row w b _ _ _ _ h]; rfl, by rw [cell_of_row w b _ _ _ _ h]; rfl, by rw [cell_of_row w b _ _ _ _ h]; rfl, by rw [cell_of_row w b _ _ _ _ h]; rfl⟩
theorem FacesAt.thaw {w : World} {b : Nat} {p q r s : Bool} (h : FacesAt w b p q r s) (k : Nat) : w.frozen? ⟨b, k, none⟩ = false := by
  have h' : w.heap[b]? = some _ := h
  simp [World.frozen?, h']
theorem FacesAt.set0 {w : World} {b : Nat} {p q r s : Bool} (h : FacesAt w b p q r s) (v : Bool) : FacesAt (w.setCell ⟨b, 0, none⟩ (.bool v)) b v q r s := by
  have h' : w.heap[b]? = some (.cells #[.bool p, .bool q, .bool r, .bool s] 34 (0, 0)) := h
  unfold FacesAt World.setCell
  rw [Array.getElem?_modify]
  simp [h']
theorem FacesAt.set1 {w : World} {b : Nat} {p q r s : Bool} (h : FacesAt w b p q r s) (v : Bool) : FacesAt (w.setCell ⟨b, 1, none⟩ (.bool v)) b p v r s := by
  have h' : w.heap[b]? = some (.cells #[.bool p, .bool q, .bool r, .bool s] 34 (0, 0)) := h
  unfold FacesAt World.setCell
  rw [Array.getElem?_modify]
  simp [h']
theorem FacesAt.set2 {w : World} {b : Nat} {p q r s : Bool} (h : FacesAt w b p q r s) (v : Bool) : FacesAt (w.setCell ⟨b, 2, none⟩ (.bool v)) b p q v s := by
  have h' : w.heap[b]? = some (.cells #[.bool p, .bool q, .bool r, .bool s] 34 (0, 0)) := h
  unfold FacesAt World.setCell
  rw [Array.getElem?_modify]
  simp [h']
theorem FacesAt.set3 {w : World} {b : Nat} {p q r s : Bool} (h : FacesAt w b p q r s) (v : Bool) : FacesAt (w.setCell ⟨b, 3, none⟩ (.bool v)) b p q r v := by
  have h' : w.heap[b]? = some (.cells #[.bool p, .bool q, .bool r, .bool s] 34 (0, 0)) := h
  unfold FacesAt World.setCell
  rw [Array.getElem?_modify]
  simp [h']
theorem faces_box (w : World) (p q r s : Bool) : FacesAt (w.alloc (.cells #[.bool p, .bool q, .bool r, .bool s] 34)) w.heap.size p q r s := by
  unfold FacesAt World.alloc
  simp
theorem FacesAt.alloc {w : World} {b : Nat} {p q r s : Bool} (h : FacesAt w b p q r s) (o : Obj) : FacesAt (w.alloc o) b p q r s := (Below.heap_alloc w o b h.lt).trans h
/-- An op in a block. -/
def OpIn (w : World) (P : Nat) (t a x : Int) : Prop := w.cell? ⟨P, 0, none⟩ = some (.int .i64 t) ∧ w.cell? ⟨P, 1, none⟩ = some (.int .i64 a) ∧ w.cell? ⟨P, 2, none⟩ = some (.int .i64 x)
theorem OpIn.below {w w1 : World} {P B : Nat} {t a x : Int} (h : OpIn w P t a x) (hb : Below B w w1) (hB : P < B) : OpIn w1 P t a x :=
  ⟨(hb.cell (p := ⟨P, 0, none⟩) hB).trans h.1, (hb.cell (p := ⟨P, 1, none⟩) hB).trans h.2.1, (hb.cell (p := ⟨P, 2, none⟩) hB).trans h.2.2⟩
theorem OpIn.set {w : World} {P F j : Nat} {t a x : Int} (h : OpIn w P t a x) (hne : P ≠ F) (v : Value) : OpIn (w.setCell ⟨F, j, none⟩ v) P t a x :=
  ⟨(World.cell?_setCell_other _ _ _ _ (by intro he; injection he with h1; exact hne h1.symm)).trans h.1, (World.cell?_setCell_other _ _ _ _ (by intro he; injection he with h1; exact hne h1.symm)).trans h.2.1, (World.cell?_setCell_other _ _ _ _ (by intro he; injection he with h1; exact hne h1.symm)).trans h.2.2⟩
/-- Memory in a round: the answer so far, the result's place, the op. -/
structure Turn (w0 w : World) (P : Nat) (t a x : Int) (p q r s : Bool) : Prop where
  now : FacesAt w (w0.heap.size + 1) p q r s
  res : FacesAt w w0.heap.size false false false false
  op : OpIn w P t a x
  old : Below w0.heap.size w0 w
  gt : w0.heap.size + 1 < P
theorem Turn.below {w0 w w1 : World} {P : Nat} {t a x : Int} {p q r s : Bool} (h : Turn w0 w P t a x p q r s) (hb : Below w.heap.size w w1) : Turn w0 w1 P t a x p q r s :=
  have hP : P < w.heap.size := World.block_lt_of_cell? w _ h.op.1
  ⟨h.now.below hb h.now.lt, h.res.below hb h.res.lt, h.op.below hb hP, h.old.trans (hb.mono h.old.size), h.gt⟩
theorem Turn.set0 {w0 w : World} {P : Nat} {t a x : Int} {p q r s : Bool} (h : Turn w0 w P t a x p q r s) : Turn w0 (w.setCell ⟨w0.heap.size + 1, 0, none⟩ (.bool false)) P t a x false q r s :=
  ⟨h.now.set0 _, h.res.far _ (by simp), h.op.set (by have := h.gt; omega) _, h.old.setCell (by exact Nat.le_succ _) _, h.gt⟩
theorem Turn.set1 {w0 w : World} {P : Nat} {t a x : Int} {p q r s : Bool} (h : Turn w0 w P t a x p q r s) : Turn w0 (w.setCell ⟨w0.heap.size + 1, 1, none⟩ (.bool false)) P t a x p false r s :=
  ⟨h.now.set1 _, h.res.far _ (by simp), h.op.set (by have := h.gt; omega) _, h.old.setCell (by exact Nat.le_succ _) _, h.gt⟩
theorem Turn.set2 {w0 w : World} {P : Nat} {t a x : Int} {p q r s : Bool} (h : Turn w0 w P t a x p q r s) : Turn w0 (w.setCell ⟨w0.heap.size + 1, 2, none⟩ (.bool false)) P t a x p q false s :=
  ⟨h.now.set2 _, h.res.far _ (by simp), h.op.set (by have := h.gt; omega) _, h.old.setCell (by exact Nat.le_succ _) _, h.gt⟩
theorem Turn.set3 {w0 w : World} {P : Nat} {t a x : Int} {p q r s : Bool} (h : Turn w0 w P t a x p q r s) : Turn w0 (w.setCell ⟨w0.heap.size + 1, 3, none⟩ (.bool false)) P t a x p q r false :=
  ⟨h.now.set3 _, h.res.far _ (by simp), h.op.set (by have := h.gt; omega) _, h.old.setCell (by exact Nat.le_succ _) _, h.gt⟩

theorem faces_info : (Tryd.prog.info? 34).map (·.size) = some 4 := by kernel_rfl
set_option maxHeartbeats 16000000 in
set_option maxRecDepth 100000 in
theorem refFaces_any (l : List Op3) (v : Value) (w : World) (hI : IsOps w v l) (hl : l.length ≤ 40) :
    Calls Tryd.prog 9 #[v] w fun e w' => e = .returned (.agg #[.bool (recB l), .bool (cauB l), .bool (strB l), .bool (rigB l)]) ∧ Below w.heap.size w w' := by
  have HIO : Hid (∀ W, Below w.heap.size w W → IsOps W v l) := fun W hW => hI.below hW (Nat.le_refl _)
  obtain ⟨ad, b, off, cap, rfl, ha, -, hbB, hops⟩ := hI
  have HE : Hid (∀ W, Below w.heap.size w W → ∀ k, k < l.length → ad = some ⟨b, off, none⟩ ∧ W.cell? ⟨b, off + k * 3, none⟩ = some (.int .i64 (opAt l k).1) ∧ W.cell? ⟨b, off + k * 3 + 1, none⟩ = some (.int .i64 (opAt l k).2.1) ∧ W.cell? ⟨b, off + k * 3 + 2, none⟩ = some (.int .i64 (opAt l k).2.2)) := fun W hW k hk => ⟨ha (by omega), (hops.below hW hbB) k hk⟩
  clear ha hbB hops
  go_enter Tryd.func9, Tryd.ntmps9
  go_wp2_with fail
  go_loopw [4] (fun v4 wr => ∃ i : Nat, i ≤ l.length ∧ v4 = .int .i64 i ∧ FacesAt wr (w.heap.size + 1) (allTo (recAt l) i) (allTo (cauAt l) i) (allTo (strAt l) i) (allTo (rigAt l) i) ∧ FacesAt wr w.heap.size false false false false ∧ Below w.heap.size w wr) (fun v4 _ => l.length - (intOf v4).toNat)
  case atStart =>
    refine ⟨0, Nat.zero_le _, rfl, ?_, (faces_box w false false false false).alloc _, ((Below.refl _ w).alloc (Nat.le_refl _) _).alloc (by simp) _⟩
    have h1 := faces_box (w.alloc (.cells #[.bool false, .bool false, .bool false, .bool false] 34)) true true true true
    rw [show (w.alloc (.cells #[.bool false, .bool false, .bool false, .bool false] 34)).heap.size = w.heap.size + 1 by simp] at h1
    exact h1
  case round =>
    obtain ⟨i, hi, rfl, hnow, hres, hbel⟩ := hrel
    obtain ⟨p, hp⟩ : ∃ p, allTo (recAt l) i = p := ⟨_, rfl⟩
    obtain ⟨q, hq⟩ : ∃ q, allTo (cauAt l) i = q := ⟨_, rfl⟩
    obtain ⟨r, hr⟩ : ∃ r, allTo (strAt l) i = r := ⟨_, rfl⟩
    obtain ⟨s, hs⟩ : ∃ s, allTo (rigAt l) i = s := ⟨_, rfl⟩
    rw [hp, hq, hr, hs] at hnow
    have HPQ : Hid (allTo (recAt l) i = p ∧ allTo (cauAt l) i = q ∧ allTo (strAt l) i = r ∧ allTo (rigAt l) i = s) := ⟨hp, hq, hr, hs⟩
    have HNOW : Hid (FacesAt wr (w.heap.size + 1) p q r s) := hnow
    have HRES : Hid (FacesAt wr w.heap.size false false false false) := hres
    have hFl := hnow.lt
    clear hp hq hr hs hnow hres
    by_cases hlt : i < l.length
    · have hlt' : (i : Int) < (l.length : Int) := by omega
      obtain ⟨hadr, c0, c1, c2⟩ := HE.out wr hbel i hlt
      subst hadr
      obtain ⟨⟨t, a, x⟩, ho⟩ : ∃ o : Op3, opAt l i = o := ⟨_, rfl⟩
      rw [ho] at c0 c1 c2
      simp only at c0 c1 c2
      have HO : Hid (opAt l i = (t, a, x)) := ho
      clear ho
      go_upto_region 6 with (fail)
      obtain ⟨W, hW⟩ : ∃ W, W = wr.alloc (.cells #[.int .i64 t, .int .i64 a, .int .i64 x] 29) := ⟨_, rfl⟩
      rw [← hW]
      obtain ⟨P, hP⟩ : ∃ P, P = wr.heap.size := ⟨_, rfl⟩
      rw [← hP]
      have hbW : Below wr.heap.size wr W := by rw [hW]; exact (Below.refl _ wr).alloc (Nat.le_refl _) _
      have HT : Hid (Turn w W P t a x p q r s) := ⟨HNOW.out.below hbW hFl, HRES.out.below hbW (by omega), by rw [hW, hP]; exact ⟨by simp, by simp, by simp⟩, hbel.trans (hbW.mono (by omega)), by omega⟩
      have o1 := HT.out.op.2.1
      clear hW hP hbW HNOW HRES hFl c0 c1 c2 hbel
      by_cases ha2 : 2 < a
      · have HN : Hid (recAt l i = true ∧ cauAt l i = true ∧ strAt l i = true ∧ rigAt l i = true) := by
          have e1 : ((opAt l i).2.1 == 1) = false := by rw [HO.out]; show (a == 1) = false; simp; omega
          have e2 : decide ((opAt l i).2.1 ≤ 2) = false := by rw [HO.out]; show decide (a ≤ 2) = false; simp; omega
          refine ⟨?_, ?_, ?_, ?_⟩
          · unfold recAt; rw [e1]; rfl
          · unfold cauAt; rw [e1]; rfl
          · unfold strAt; rw [e2]; rfl
          · unfold rigAt; rw [e2]; rfl
        go_wp2_with fail
        go_roundw
        case rel =>
          refine ⟨i + 1, by omega, by go_num, ?_, HT.out.res, HT.out.old⟩
          rw [allTo_succ, allTo_succ, allTo_succ, allTo_succ, HPQ.out.1, HPQ.out.2.1, HPQ.out.2.2.1, HPQ.out.2.2.2, HN.out.1, HN.out.2.1, HN.out.2.2.1, HN.out.2.2.2, Bool.and_true, Bool.and_true, Bool.and_true, Bool.and_true]
          exact HT.out.now
        case measure => simp [intOf]; omega
      · go_upto_if 27 with fail
        go_cut [80] from 12 (fun s80 W => s80 = undef ∧ Turn w W P t a x (p && recAt l i) (q && cauAt l i) r s)
        case rest =>
          obtain ⟨hs80, hcut⟩ := hcut
          subst hs80
          have HTC : Hid (Turn w wc P t a x (p && recAt l i) (q && cauAt l i) r s) := hcut
          clear hcut o1 HT
          go_wp2_with fail
          refine (open_any l _ i 2 _ (HIO.out _ HTC.out.old) hl hlt).mono ?_
          rintro e w1 ⟨rfl, hb1⟩
          have HT1 : Hid (Turn w w1 P t a x (p && recAt l i) (q && cauAt l i) r s) := HTC.out.below hb1
          clear hb1 HTC
          cases hd2 : openB l i 2 with
          | true =>
            have HR2 : Hid (openB l i 2 = true) := hd2
            clear hd2
            obtain ⟨-, -, k2, k3⟩ := HT1.out.now.cells
            have z2 := HT1.out.now.thaw 2
            have z3 := HT1.out.now.thaw 3
            have HT2 : Hid (Turn w ((w1.setCell ⟨w.heap.size + 1, 2, none⟩ (.bool false)).setCell ⟨w.heap.size + 1, 3, none⟩ (.bool false)) P t a x (p && recAt l i) (q && cauAt l i) false false) := HT1.out.set2.set3
            go_upto_region 20 with (fail)
            obtain ⟨w2, hw2⟩ : ∃ w2, w2 = (w1.setCell ⟨w.heap.size + 1, 2, none⟩ (.bool false)).setCell ⟨w.heap.size + 1, 3, none⟩ (.bool false) := ⟨_, rfl⟩
            rw [← hw2] at HT2 ⊢
            clear hw2 k2 k3 z2 z3 HT1
            go_wp2_with fail
            refine (open_any l _ i 1 _ (HIO.out _ HT2.out.old) hl hlt).mono ?_
            rintro e w3 ⟨rfl, hb3⟩
            have HT3 : Hid (Turn w w3 P t a x (p && recAt l i) (q && cauAt l i) false false) := HT2.out.below hb3
            have o3 := HT3.out.op.2.1
            clear hb3 HT2
            obtain ⟨d1, hd1⟩ : ∃ d1, openB l i 1 = d1 := ⟨_, rfl⟩
            rw [hd1]
            have HSR : Hid (strAt l i = false ∧ rigAt l i = false) := by
              constructor
              · unfold strAt; rw [HO.out, HR2.out, show decide ((t, a, x).2.1 ≤ 2) = true from decide_eq_true (by show a ≤ 2; omega)]; rfl
              · unfold rigAt; rw [HO.out, HR2.out, hd1, show decide ((t, a, x).2.1 ≤ 2) = true from decide_eq_true (by show a ≤ 2; omega)]; rfl
            clear hd1
            cases ha22 : (a == 2) with
            | false =>
              go_wp2_with fail
              go_roundw
              case rel =>
                refine ⟨i + 1, by omega, by go_num, ?_, HT3.out.res, HT3.out.old⟩
                rw [allTo_succ, allTo_succ, allTo_succ, allTo_succ, HPQ.out.1, HPQ.out.2.1, HPQ.out.2.2.1, HPQ.out.2.2.2, HSR.out.1, HSR.out.2]
                rw [Bool.and_false, Bool.and_false]; exact HT3.out.now
              case measure => simp [intOf]; omega
            | true =>
              cases d1 with
              | false =>
                go_wp2_with fail
                go_roundw
                case rel =>
                  refine ⟨i + 1, by omega, by go_num, ?_, HT3.out.res, HT3.out.old⟩
                  rw [allTo_succ, allTo_succ, allTo_succ, allTo_succ, HPQ.out.1, HPQ.out.2.1, HPQ.out.2.2.1, HPQ.out.2.2.2, HSR.out.1, HSR.out.2]
                  rw [Bool.and_false, Bool.and_false]; exact HT3.out.now
                case measure => simp [intOf]; omega
              | true =>
                obtain ⟨-, -, -, k3⟩ := HT3.out.now.cells
                have z3 := HT3.out.now.thaw 3
                have HT4 : Hid (Turn w (w3.setCell ⟨w.heap.size + 1, 3, none⟩ (.bool false)) P t a x (p && recAt l i) (q && cauAt l i) false false) := HT3.out.set3
                go_wp2_with fail
                go_roundw
                case rel =>
                  refine ⟨i + 1, by omega, by go_num, ?_, HT4.out.res, HT4.out.old⟩
                  rw [allTo_succ, allTo_succ, allTo_succ, allTo_succ, HPQ.out.1, HPQ.out.2.1, HPQ.out.2.2.1, HPQ.out.2.2.2, HSR.out.1, HSR.out.2]
                  rw [Bool.and_false, Bool.and_false]; exact HT4.out.now
                case measure => simp [intOf]; omega
          | false =>
            have HR2 : Hid (openB l i 2 = false) := hd2
            clear hd2
            obtain ⟨w2, hw2⟩ : ∃ w2, w2 = w1 := ⟨_, rfl⟩
            have HT2 : Hid (Turn w w2 P t a x (p && recAt l i) (q && cauAt l i) r s) := by rw [hw2]; exact HT1.out
            go_upto_region 20 with (fail)
            rw [← hw2]
            clear hw2 HT1
            go_wp2_with fail
            refine (open_any l _ i 1 _ (HIO.out _ HT2.out.old) hl hlt).mono ?_
            rintro e w3 ⟨rfl, hb3⟩
            have HT3 : Hid (Turn w w3 P t a x (p && recAt l i) (q && cauAt l i) r s) := HT2.out.below hb3
            have o3 := HT3.out.op.2.1
            clear hb3 HT2
            obtain ⟨d1, hd1⟩ : ∃ d1, openB l i 1 = d1 := ⟨_, rfl⟩
            rw [hd1]
            have HSR : Hid (strAt l i = true ∧ rigAt l i = !(a == 2 && d1)) := by
              constructor
              · unfold strAt; rw [HO.out, HR2.out, show decide ((t, a, x).2.1 ≤ 2) = true from decide_eq_true (by show a ≤ 2; omega)]; rfl
              · unfold rigAt; rw [HO.out, HR2.out, hd1, show decide ((t, a, x).2.1 ≤ 2) = true from decide_eq_true (by show a ≤ 2; omega)]; rfl
            clear hd1
            cases ha22 : (a == 2) with
            | false =>
              rw [ha22] at HSR
              go_wp2_with fail
              go_roundw
              case rel =>
                refine ⟨i + 1, by omega, by go_num, ?_, HT3.out.res, HT3.out.old⟩
                rw [allTo_succ, allTo_succ, allTo_succ, allTo_succ, HPQ.out.1, HPQ.out.2.1, HPQ.out.2.2.1, HPQ.out.2.2.2, HSR.out.1, HSR.out.2]
                rw [show (!(false && d1)) = true from rfl, Bool.and_true, Bool.and_true]; exact HT3.out.now
              case measure => simp [intOf]; omega
            | true =>
              rw [ha22] at HSR
              cases d1 with
              | false =>
                go_wp2_with fail
                go_roundw
                case rel =>
                  refine ⟨i + 1, by omega, by go_num, ?_, HT3.out.res, HT3.out.old⟩
                  rw [allTo_succ, allTo_succ, allTo_succ, allTo_succ, HPQ.out.1, HPQ.out.2.1, HPQ.out.2.2.1, HPQ.out.2.2.2, HSR.out.1, HSR.out.2]
                  rw [show (!(true && false)) = true from rfl, Bool.and_true, Bool.and_true]; exact HT3.out.now
                case measure => simp [intOf]; omega
              | true =>
                obtain ⟨-, -, -, k3⟩ := HT3.out.now.cells
                have z3 := HT3.out.now.thaw 3
                have HT4 : Hid (Turn w (w3.setCell ⟨w.heap.size + 1, 3, none⟩ (.bool false)) P t a x (p && recAt l i) (q && cauAt l i) r false) := HT3.out.set3
                go_wp2_with fail
                go_roundw
                case rel =>
                  refine ⟨i + 1, by omega, by go_num, ?_, HT4.out.res, HT4.out.old⟩
                  rw [allTo_succ, allTo_succ, allTo_succ, allTo_succ, HPQ.out.1, HPQ.out.2.1, HPQ.out.2.2.1, HPQ.out.2.2.2, HSR.out.1, HSR.out.2]
                  rw [show (!(true && true)) = false from rfl, Bool.and_true, Bool.and_false]; exact HT4.out.now
                case measure => simp [intOf]; omega
        case first =>
          cases ha1 : (a == 1) with
          | false =>
            have HN : Hid (recAt l i = true ∧ cauAt l i = true) := by
              constructor
              · unfold recAt; rw [HO.out]; show (!(a == 1 && _)) = true; rw [ha1]; rfl
              · unfold cauAt; rw [HO.out]; show (!(a == 1 && _)) = true; rw [ha1]; rfl
            go_wp2_with fail
            go_meet
            case rel =>
              rw [HN.out.1, HN.out.2, Bool.and_true, Bool.and_true]
              exact ⟨rfl, HT.out⟩
          | true =>
            obtain rfl : a = 1 := by simpa using ha1
            clear ha1 o1
            go_wp2_with fail
            refine (from_any l _ i _ (HIO.out _ HT.out.old) hl hlt).mono ?_
            rintro e w1 ⟨rfl, hb1⟩
            have HT1 : Hid (Turn w w1 P t 1 x p q r s) := HT.out.below hb1
            have o0 := HT1.out.op.1
            clear hb1 HT
            obtain ⟨f, hf⟩ : ∃ f, fromI l i = f := ⟨_, rfl⟩
            have HF : Hid (fromI l i = f) := hf
            rw [hf]
            clear hf
            cases hf0 : (f != 0) with
            | false =>
              have HN : Hid (recAt l i = true ∧ cauAt l i = true) := by
                constructor
                · unfold recAt; rw [HO.out, HF.out, hf0]; rfl
                · unfold cauAt; rw [HO.out, HF.out, hf0]; rfl
              go_wp2_with fail
              go_meet
              case rel =>
                rw [HN.out.1, HN.out.2, Bool.and_true, Bool.and_true]
                exact ⟨rfl, HT1.out⟩
            | true =>
              cases hft : (f != t) with
              | false =>
                have HN : Hid (recAt l i = true ∧ cauAt l i = true) := by
                  constructor
                  · unfold recAt; rw [HO.out, HF.out, hf0]; show (!(_ && (true && (f != t && _)))) = true; rw [hft]; rfl
                  · unfold cauAt; rw [HO.out, HF.out, hf0]; show (!(_ && (true && (f != t && _)))) = true; rw [hft]; rfl
                go_wp2_with fail
                go_meet
                case rel =>
                  rw [HN.out.1, HN.out.2, Bool.and_true, Bool.and_true]
                  exact ⟨rfl, HT1.out⟩
              | true =>
                obtain ⟨mi, hmi⟩ : ∃ mi, whenI l t = mi := ⟨_, rfl⟩
                obtain ⟨it, hit⟩ : ∃ it, whenI l f = it := ⟨_, rfl⟩
                obtain ⟨en, hen⟩ : ∃ en, endBy l f i = en := ⟨_, rfl⟩
                have HREC : Hid (recAt l i = !(decide (0 ≤ mi) && (decide (it < 0) || decide (mi < it)))) := by
                  show recAt l i = _
                  unfold recAt; rw [HO.out, HF.out, hf0]; show (!(true && (true && (f != t && (decide (0 ≤ whenI l t) && _))))) = _; rw [hft, hmi, hit]; rfl
                have HCAU : Hid (cauAt l i = !(en != 3)) := by
                  show cauAt l i = _
                  unfold cauAt; rw [HO.out, HF.out, hf0, hen]; show (!(true && (true && (f != t && _)))) = _; rw [hft]; rfl
                have HWH : Hid (whenI l t = mi ∧ whenI l f = it ∧ endBy l f i = en) := ⟨hmi, hit, hen⟩
                clear hmi hit hen
                go_wp2_with fail
                refine (when_any l _ t _ (HIO.out _ HT1.out.old) hl).mono ?_
                rintro e w2 ⟨rfl, hw2⟩
                rw [hw2, HWH.out.1]
                clear hw2
                go_wp2_with fail
                refine (when_any l _ f _ (HIO.out _ HT1.out.old) hl).mono ?_
                rintro e w2 ⟨rfl, hw2⟩
                rw [hw2, HWH.out.2.1]
                clear hw2 w2
                by_cases hm0 : 0 ≤ mi
                · by_cases hi0 : it < 0
                  · clear o0
                    have HR2 : Hid (recAt l i = false) := by show recAt l i = false; rw [HREC.out]; simp; omega
                    obtain ⟨k0, -, -, -⟩ := HT1.out.now.cells
                    have z0 := HT1.out.now.thaw 0
                    have HTQ : Hid (Turn w (w1.setCell ⟨w.heap.size + 1, 0, none⟩ (.bool false)) P t 1 x (p && recAt l i) q r s) := by rw [HR2.out, Bool.and_false]; exact HT1.out.set0
                    go_wp2_with fail
                    refine (endAt_any l _ f i _ (HIO.out _ HTQ.out.old) hl (by omega)).mono ?_
                    rintro e w3 ⟨rfl, hw3⟩
                    rw [hw3, HWH.out.2.2]
                    clear hw3 w3
                    cases hen3 : (en != 3) with
                    | false =>
                      have HC2 : Hid (cauAt l i = true) := by show cauAt l i = true; rw [HCAU.out, hen3]; rfl
                      go_wp2_with fail
                      go_meet
                      case rel => rw [HC2.out, Bool.and_true]; exact ⟨rfl, HTQ.out⟩
                    | true =>
                      have HC2 : Hid (cauAt l i = false) := by show cauAt l i = false; rw [HCAU.out, hen3]; rfl
                      obtain ⟨-, k1, -, -⟩ := HTQ.out.now.cells
                      have z1 := HTQ.out.now.thaw 1
                      go_wp2_with fail
                      go_meet
                      case rel => rw [HC2.out, Bool.and_false]; exact ⟨rfl, HTQ.out.set1⟩
                  · by_cases hmt : mi < it
                    · clear o0
                      have HR2 : Hid (recAt l i = false) := by show recAt l i = false; rw [HREC.out]; simp; omega
                      obtain ⟨k0, -, -, -⟩ := HT1.out.now.cells
                      have z0 := HT1.out.now.thaw 0
                      have HTQ : Hid (Turn w (w1.setCell ⟨w.heap.size + 1, 0, none⟩ (.bool false)) P t 1 x (p && recAt l i) q r s) := by rw [HR2.out, Bool.and_false]; exact HT1.out.set0
                      go_wp2_with fail
                      refine (endAt_any l _ f i _ (HIO.out _ HTQ.out.old) hl (by omega)).mono ?_
                      rintro e w3 ⟨rfl, hw3⟩
                      rw [hw3, HWH.out.2.2]
                      clear hw3 w3
                      cases hen3 : (en != 3) with
                      | false =>
                        have HC2 : Hid (cauAt l i = true) := by show cauAt l i = true; rw [HCAU.out, hen3]; rfl
                        go_wp2_with fail
                        go_meet
                        case rel => rw [HC2.out, Bool.and_true]; exact ⟨rfl, HTQ.out⟩
                      | true =>
                        have HC2 : Hid (cauAt l i = false) := by show cauAt l i = false; rw [HCAU.out, hen3]; rfl
                        obtain ⟨-, k1, -, -⟩ := HTQ.out.now.cells
                        have z1 := HTQ.out.now.thaw 1
                        go_wp2_with fail
                        go_meet
                        case rel => rw [HC2.out, Bool.and_false]; exact ⟨rfl, HTQ.out.set1⟩
                    · clear o0
                      have HR2 : Hid (recAt l i = true) := by show recAt l i = true; rw [HREC.out]; simp; omega
                      have HTQ : Hid (Turn w w1 P t 1 x (p && recAt l i) q r s) := by rw [HR2.out, Bool.and_true]; exact HT1.out
                      go_wp2_with fail
                      refine (endAt_any l _ f i _ (HIO.out _ HTQ.out.old) hl (by omega)).mono ?_
                      rintro e w3 ⟨rfl, hw3⟩
                      rw [hw3, HWH.out.2.2]
                      clear hw3 w3
                      cases hen3 : (en != 3) with
                      | false =>
                        have HC2 : Hid (cauAt l i = true) := by show cauAt l i = true; rw [HCAU.out, hen3]; rfl
                        go_wp2_with fail
                        go_meet
                        case rel => rw [HC2.out, Bool.and_true]; exact ⟨rfl, HTQ.out⟩
                      | true =>
                        have HC2 : Hid (cauAt l i = false) := by show cauAt l i = false; rw [HCAU.out, hen3]; rfl
                        obtain ⟨-, k1, -, -⟩ := HTQ.out.now.cells
                        have z1 := HTQ.out.now.thaw 1
                        go_wp2_with fail
                        go_meet
                        case rel => rw [HC2.out, Bool.and_false]; exact ⟨rfl, HTQ.out.set1⟩
                · clear o0
                  have HR2 : Hid (recAt l i = true) := by show recAt l i = true; rw [HREC.out]; simp; omega
                  have HTQ : Hid (Turn w w1 P t 1 x (p && recAt l i) q r s) := by rw [HR2.out, Bool.and_true]; exact HT1.out
                  go_wp2_with fail
                  refine (endAt_any l _ f i _ (HIO.out _ HTQ.out.old) hl (by omega)).mono ?_
                  rintro e w3 ⟨rfl, hw3⟩
                  rw [hw3, HWH.out.2.2]
                  clear hw3 w3
                  cases hen3 : (en != 3) with
                  | false =>
                    have HC2 : Hid (cauAt l i = true) := by show cauAt l i = true; rw [HCAU.out, hen3]; rfl
                    go_wp2_with fail
                    go_meet
                    case rel => rw [HC2.out, Bool.and_true]; exact ⟨rfl, HTQ.out⟩
                  | true =>
                    have HC2 : Hid (cauAt l i = false) := by show cauAt l i = false; rw [HCAU.out, hen3]; rfl
                    obtain ⟨-, k1, -, -⟩ := HTQ.out.now.cells
                    have z1 := HTQ.out.now.thaw 1
                    go_wp2_with fail
                    go_meet
                    case rel => rw [HC2.out, Bool.and_false]; exact ⟨rfl, HTQ.out.set1⟩
    · have hlt' : ¬ (i : Int) < (l.length : Int) := by omega
      obtain rfl : i = l.length := by omega
      obtain ⟨k0, k1, k2, k3⟩ := HNOW.out.cells
      obtain ⟨j0, j1, j2, j3⟩ := HRES.out.cells
      have z0 := HRES.out.thaw 0
      have z1 := HRES.out.thaw 1
      have z2 := HRES.out.thaw 2
      have z3 := HRES.out.thaw 3
      go_wp2_with fail
      refine bodyPost_ret (v := .agg #[.bool p, .bool q, .bool r, .bool s]) (results_cell_row Tryd.results9 _ _ w.heap.size 34 #[.bool p, .bool q, .bool r, .bool s] (0, 0) _ rfl ((((HRES.out.set0 p).set1 q).set2 r).set3 s) Tryd.underlying34 rfl faces_info) rfl ⟨?_, ?_⟩
      · rw [← HPQ.out.1, ← HPQ.out.2.1, ← HPQ.out.2.2.1, ← HPQ.out.2.2.2]; rfl
      · refine (((hbel.setCell ?_ _).setCell ?_ _).setCell ?_ _).setCell ?_ _ <;> exact Nat.le_refl _
end Go.Proofs.YtlhkjllpgdhnjacDoor
