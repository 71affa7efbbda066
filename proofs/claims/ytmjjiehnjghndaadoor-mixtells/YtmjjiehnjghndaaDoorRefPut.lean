/-
  PROVED HERE: laneref1.Put puts a number into a list, ahead of the first that is greater, once. Old memory stays as it was.
  Conditions: none.
-/
import Derived.Test.YtmjjiehnjghndaaDoorMgaj
import Derived.Test.YtmjjiehnjghndaaDoorMgad
import Derived.Maps.AppendAt
namespace Go.Proofs.YtmjjiehnjghndaaDoor
open Go.RowKit

set_option maxHeartbeats 8000000 in
theorem put_own (l : List Int) (v : Value) (n : Int) (w : World) (hI : IsInts w v l) (hl : l.length ≤ 17592186044000) :
    Calls Tryd.prog 30 #[v, .int .i64 n] w fun e w' => ∃ v', e = .returned v' ∧ w'.ownsRow w.heap.size 3 1 v' (putL l n).length ((putL l n).map (Value.int .i64)) ∧ Below w.heap.size w w' := by
  obtain ⟨ad, b, off, cap, rfl, ha, -, hbB, hc⟩ := hI
  have HE : Hid (∀ W, Below w.heap.size w W → ∀ k, k < l.length → ad = some ⟨b, off, none⟩ ∧ W.cell? ⟨b, off + k, none⟩ = some (.int .i64 (l.getD k 0)) ∧ b < w.heap.size) := fun W hW k hk => by
    have hb : b < w.heap.size := by
      rcases hbB with h | h
      · exact h
      · subst h; simp at hk
    exact ⟨ha (by omega), (hW.cell (p := ⟨b, off + k, none⟩) hb).trans (hc k hk), hb⟩
  obtain ⟨i0, hi, hz0, hs0, hy0⟩ := info_parts infoInt
  have HI : Hid (Tryd.prog.info? 3 = some i0 ∧ i0.zero = some (.int .i64 0) ∧ i0.size = 1 ∧ i0.bytes = 8) := ⟨hi, hz0, hs0, hy0⟩
  clear hi hz0 hs0 hy0 ha hbB hc
  go_enter Tryd.func30, Tryd.ntmps30
  go_wp2_with fail
  go_loopw [5, 6, 7] (fun v5 v6 v7 wr => ∃ (k : Nat) (done : Bool) (out : List Int), k ≤ l.length ∧ v7 = .int .i64 k ∧ v6 = .bool done ∧ out.length ≤ k + done.toNat ∧ putL l n = out ++ putR done (l.drop k) n ∧ wr.ownsRow w.heap.size 3 1 v5 out.length (out.map (Value.int .i64)) ∧ Below w.heap.size w wr) (fun _ _ v7 _ => l.length - (intOf v7).toNat)
  case atStart => exact ⟨0, false, [], Nat.zero_le _, rfl, rfl, by simp, rfl, World.ownsRow_nil _ _ _ _, Below.refl _ _⟩
  case round =>
    obtain ⟨k, done, out, hk, rfl, rfl, hol, hput, hown, hbel⟩ := hrel
    have HP : Hid (putL l n = out ++ putR done (l.drop k) n) := hput
    have HOWN : Hid (wr.ownsRow w.heap.size 3 1 u5 out.length (out.map (Value.int .i64))) := hown
    have hsz := hbel.size
    have HOL : Hid (out.length ≤ k + done.toNat) := hol
    have hol2 : out.length ≤ 17592186044001 := by have := Bool.toNat_le done; omega
    clear hput hown hol
    by_cases hlt : k < l.length
    · obtain ⟨rfl, c0, hbl⟩ := HE.out wr hbel k hlt
      obtain ⟨t, ht⟩ : ∃ t, l.getD k 0 = t := ⟨_, rfl⟩
      rw [ht] at c0
      have HD : Hid (l.drop k = t :: l.drop (k + 1)) := by
        show l.drop k = t :: l.drop (k + 1)
        rw [List.drop_eq_getElem_cons hlt, ← ht]; simp [List.getD, List.getElem?_eq_getElem hlt]
      clear ht
      have HE1 : Hid (∀ W, Below w.heap.size w W → W.cell? ⟨b, off + k, none⟩ = some (.int .i64 t)) := fun W hW => by
        rw [hW.cell (p := ⟨b, off + k, none⟩) hbl, ← hbel.cell (p := ⟨b, off + k, none⟩) hbl]; exact c0
      cases done with
      | true =>
        have HQ : Hid (putL l n = (out ++ [t]) ++ putR true (l.drop (k + 1)) n) := by
          show putL l n = (out ++ [t]) ++ putR true (l.drop (k + 1)) n
          rw [HP.out, HD.out]; simp [putR]
        cases hq : (t == n)
        all_goals
          go_wp2_with (
            at_builtin
            refine wpList_append_own _ rfl (.tmp 34) (.tmp 39) 26 rfl w.heap.size 3 i0 (.int .i64 0) 1 8 Tryd.underlying26 HI.out.1 HI.out.2.1 HI.out.2.2.1 HI.out.2.2.2 rfl (by decide) u5 out.length (out.map (Value.int .i64)) rfl (HOWN.out.alloc _) ⟨wr.heap.size, 0, none⟩ 1 1 [.int .i64 t] rfl rfl (cell_one_new _ _ _) (by simp [Value.oneCell']) (by unfold maxLen; omega) (by omega) (by simp; omega) ?_
            intro v1 w1 hown1 hgr1 hnil1)
          have hB1 := (hbel.alloc hsz _).grown hgr1 (by simp; omega) (fun m hm => (HOWN.out.lt m hm).1)
          go_roundw
          case rel => exact ⟨k + 1, true, out ++ [t], by omega, by go_num, rfl, by have h1 := HOL.out; simp at h1 ⊢; omega, HQ.out, by simpa using hown1, hB1⟩
          case measure => simp [intOf]; omega
      | false =>
        cases hq : (t == n) with
        | true =>
          have HQ : Hid (putL l n = (out ++ [t]) ++ putR true (l.drop (k + 1)) n) := by
            show putL l n = (out ++ [t]) ++ putR true (l.drop (k + 1)) n
            have e : t = n := by simpa using hq
            rw [HP.out, HD.out]; simp [putR, putL, e]
          go_wp2_with (
            at_builtin
            refine wpList_append_own _ rfl (.tmp 34) (.tmp 39) 26 rfl w.heap.size 3 i0 (.int .i64 0) 1 8 Tryd.underlying26 HI.out.1 HI.out.2.1 HI.out.2.2.1 HI.out.2.2.2 rfl (by decide) u5 out.length (out.map (Value.int .i64)) rfl (HOWN.out.alloc _) ⟨wr.heap.size, 0, none⟩ 1 1 [.int .i64 t] rfl rfl (cell_one_new _ _ _) (by simp [Value.oneCell']) (by unfold maxLen; omega) (by omega) (by simp; omega) ?_
            intro v1 w1 hown1 hgr1 hnil1)
          have hB1 := (hbel.alloc hsz _).grown hgr1 (by simp; omega) (fun m hm => (HOWN.out.lt m hm).1)
          go_roundw
          case rel => exact ⟨k + 1, true, out ++ [t], by omega, by go_num, rfl, by have h1 := HOL.out; simp at h1 ⊢; omega, HQ.out, by simpa using hown1, hB1⟩
          case measure => simp [intOf]; omega
        | false =>
          by_cases hnt : n < t
          · have HQ : Hid (putL l n = (out ++ [n, t]) ++ putR true (l.drop (k + 1)) n) := by
              show putL l n = (out ++ [n, t]) ++ putR true (l.drop (k + 1)) n
              have e : t ≠ n := by simpa using hq
              rw [HP.out, HD.out]; simp [putR, putL, e, hnt]
            go_wp2_with (first | (at_builtin; refine wpList_append_own _ rfl (.tmp 30) (.tmp 32) 26 rfl w.heap.size 3 i0 (.int .i64 0) 1 8 Tryd.underlying26 HI.out.1 HI.out.2.1 HI.out.2.2.1 HI.out.2.2.2 rfl (by decide) u5 out.length (out.map (Value.int .i64)) rfl (HOWN.out.alloc _) ⟨wr.heap.size, 0, none⟩ 1 1 [.int .i64 n] rfl rfl (cell_one_new _ _ _) (by simp [Value.oneCell']) (by unfold maxLen; omega) (by omega) (by simp; omega) ?_; intro v1 w1 hown1 hgr1 hnil1; have hB1 := (hbel.alloc hsz _).grown hgr1 (by simp; omega) (fun m hm => (HOWN.out.lt m hm).1); have HOWN1 : Hid (w1.ownsRow w.heap.size 3 1 v1 (out.length + 1) (out.map (Value.int .i64) ++ [.int .i64 n])) := hown1; have c1 := HE1.out w1 hB1; have hsz1 := hB1.size; clear hown1 hgr1 hnil1 HOWN c0) | (at_builtin; refine wpList_append_own _ rfl (.tmp 34) (.tmp 39) 26 rfl w.heap.size 3 i0 (.int .i64 0) 1 8 Tryd.underlying26 HI.out.1 HI.out.2.1 HI.out.2.2.1 HI.out.2.2.2 rfl (by decide) v1 (out.length + 1) (out.map (Value.int .i64) ++ [.int .i64 n]) rfl (HOWN1.out.alloc _) ⟨w1.heap.size, 0, none⟩ 1 1 [.int .i64 t] rfl rfl (cell_one_new _ _ _) (by simp [Value.oneCell']) (by unfold maxLen; omega) (by omega) (by simp; omega) ?_; intro v2 w2 hown2 hgr2 hnil2))
            have hB2 := (hB1.alloc hsz1 _).grown hgr2 (by simp; omega) (fun m hm => (HOWN1.out.lt m hm).1)
            go_roundw
            case rel => exact ⟨k + 1, true, out ++ [n, t], by omega, by go_num, rfl, by have h1 := HOL.out; simp at h1 ⊢; omega, HQ.out, by simpa using hown2, hB2⟩
            case measure => simp [intOf]; omega
          · have HQ : Hid (putL l n = (out ++ [t]) ++ putR false (l.drop (k + 1)) n) := by
              show putL l n = (out ++ [t]) ++ putR false (l.drop (k + 1)) n
              have e : t ≠ n := by simpa using hq
              rw [HP.out, HD.out]; simp [putR, putL, e, hnt]
            go_wp2_with (
              at_builtin
              refine wpList_append_own _ rfl (.tmp 34) (.tmp 39) 26 rfl w.heap.size 3 i0 (.int .i64 0) 1 8 Tryd.underlying26 HI.out.1 HI.out.2.1 HI.out.2.2.1 HI.out.2.2.2 rfl (by decide) u5 out.length (out.map (Value.int .i64)) rfl (HOWN.out.alloc _) ⟨wr.heap.size, 0, none⟩ 1 1 [.int .i64 t] rfl rfl (cell_one_new _ _ _) (by simp [Value.oneCell']) (by unfold maxLen; omega) (by omega) (by simp; omega) ?_
              intro v1 w1 hown1 hgr1 hnil1)
            have hB1 := (hbel.alloc hsz _).grown hgr1 (by simp; omega) (fun m hm => (HOWN.out.lt m hm).1)
            go_roundw
            case rel => exact ⟨k + 1, false, out ++ [t], by omega, by go_num, rfl, by have h1 := HOL.out; simp at h1 ⊢; omega, HQ.out, by simpa using hown1, hB1⟩
            case measure => simp [intOf]; omega
    · have HQ : Hid (putL l n = out ++ putR done [] n) := by
        have h1 := HP.out
        rw [List.drop_of_length_le (by omega)] at h1
        exact h1
      cases done with
      | true =>
        go_wp2_with fail
        go_ret
        refine ⟨_, rfl, ?_, hbel⟩
        rw [HQ.out]
        simpa [putR] using HOWN.out
      | false =>
        go_wp2_with (
          at_builtin
          refine wpList_append_own _ rfl (.tmp 43) (.tmp 45) 26 rfl w.heap.size 3 i0 (.int .i64 0) 1 8 Tryd.underlying26 HI.out.1 HI.out.2.1 HI.out.2.2.1 HI.out.2.2.2 rfl (by decide) u5 out.length (out.map (Value.int .i64)) rfl (HOWN.out.alloc _) ⟨wr.heap.size, 0, none⟩ 1 1 [.int .i64 n] rfl rfl (cell_one_new _ _ _) (by simp [Value.oneCell']) (by unfold maxLen; omega) (by omega) (by simp; omega) ?_
          intro v1 w1 hown1 hgr1 hnil1)
        have hB1 := (hbel.alloc hsz _).grown hgr1 (by simp; omega) (fun m hm => (HOWN.out.lt m hm).1)
        go_ret
        refine ⟨_, rfl, ?_, hB1⟩
        rw [HQ.out]
        simpa [putR, putL] using hown1
theorem put_any (l : List Int) (v : Value) (n : Int) (w : World) (hI : IsInts w v l) (hl : l.length ≤ 17592186044000) :
    Calls Tryd.prog 30 #[v, .int .i64 n] w fun e w' => ∃ v', e = .returned v' ∧ IsInts w' v' (putL l n) ∧ Below w.heap.size w w' :=
  (put_own l v n w hI hl).mono fun _ _ ⟨v', he, ho, hb⟩ => ⟨v', he, isInts_own ho rfl, hb⟩
end Go.Proofs.YtmjjiehnjghndaaDoor
