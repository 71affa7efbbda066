/-
  PROVED HERE: laneref2.who answers as the plain whoK says. Nothing turns.
  Conditions: the lists are short.
-/
import Derived.Test.YtjaeaanpbdmfgafDoorRefKind0
namespace Go.Proofs.YtjaeaanpbdmfgafDoor
open Go.RowKit

/-- A slice value that holds deals of a run. -/
def IsDeals (w : World) (v : Value) (ds : List Int) (of : Int → Dl) : Prop :=
  ∃ (ad : Option Addr) (b off cap : Nat), v = .slice ad ds.length cap ∧ (0 < ds.length → ad = some ⟨b, off, none⟩) ∧ (b < w.heap.size ∨ ds = []) ∧ ∀ i, i < ds.length → ∃ sv wv, DlIs w (of (ds.getD i 0)) sv wv ∧
    w.cell? ⟨b, off + i * 5, none⟩ = some (.int .i64 (ds.getD i 0)) ∧ w.cell? ⟨b, off + i * 5 + 1, none⟩ = some (.int .i64 (of (ds.getD i 0)).began) ∧ w.cell? ⟨b, off + i * 5 + 2, none⟩ = some (.int .i64 (of (ds.getD i 0)).ended) ∧ w.cell? ⟨b, off + i * 5 + 3, none⟩ = some sv ∧ w.cell? ⟨b, off + i * 5 + 4, none⟩ = some wv
theorem IsDeals.below {w w1 : World} {B : Nat} {v : Value} {ds : List Int} {of : Int → Dl} (h : IsDeals w v ds of) (hb : Below B w w1) (hB : w.heap.size ≤ B) : IsDeals w1 v ds of := by
  obtain ⟨ad, b, off, cap, hv, ha, hbB, hc⟩ := h
  have hs := hb.size
  refine ⟨ad, b, off, cap, hv, ha, ?_, fun i hi => ?_⟩
  · rcases hbB with h | h
    · exact .inl (by omega)
    · exact .inr h
  · obtain ⟨sv, wv, hd, c⟩ := hc i hi
    rcases hbB with h | h
    · refine ⟨sv, wv, hd.below hb hB, ?_⟩
      rw [hb.cell (p := ⟨b, off + i * 5, none⟩) (by simp; omega), hb.cell (p := ⟨b, off + i * 5 + 1, none⟩) (by simp; omega), hb.cell (p := ⟨b, off + i * 5 + 2, none⟩) (by simp; omega), hb.cell (p := ⟨b, off + i * 5 + 3, none⟩) (by simp; omega), hb.cell (p := ⟨b, off + i * 5 + 4, none⟩) (by simp; omega)]
      exact c
    · subst h; simp at hi
theorem whoK_snoc (ds : List Int) (of : Int → Dl) (t item time below : Int) : whoK (ds ++ [t]) of item time below = if (!inB (of t).wrote item || decide (time ≤ (of t).ended)) = true then whoK ds of item time below else if below = 0 then t else if t < below ∧ whoK ds of item time below < t then t else whoK ds of item time below := by
  unfold whoK
  rw [List.foldl_append]
  rfl
theorem retN {a b : Int} (h : a = b) : Ending.returned (.int .i64 a) = .returned (.int .i64 b) := by rw [h]
set_option maxHeartbeats 4000000 in
theorem who_any (ds : List Int) (of : Int → Dl) (v : Value) (item time below : Int) (w : World) (hI : IsDeals w v ds of) (hl : ds.length ≤ 100) :
    Calls Tryd.prog 28 #[v, .int .i64 item, .int .i64 time, .int .i64 below] w fun e w' => e = .returned (.int .i64 (whoK ds of item time below)) ∧ w' = w := by
  obtain ⟨ad, b, off, cap, rfl, ha, -, hc⟩ := hI
  have HE : Hid (∀ k, k < ds.length → ad = some ⟨b, off, none⟩ ∧ ∃ wv, w.cell? ⟨b, off + k * 5, none⟩ = some (.int .i64 (ds.getD k 0)) ∧ w.cell? ⟨b, off + k * 5 + 2, none⟩ = some (.int .i64 (of (ds.getD k 0)).ended) ∧ w.cell? ⟨b, off + k * 5 + 4, none⟩ = some wv ∧ IsInts w wv (of (ds.getD k 0)).wrote ∧ (of (ds.getD k 0)).wrote.length ≤ 100) := fun k hk => by
    obtain ⟨sv, wv, hd, c0, _, c2, _, c4⟩ := hc k hk
    exact ⟨ha (by omega), wv, c0, c2, c4, hd.wrote, hd.short.2⟩
  have HT : Hid (∀ k, k < ds.length → ds.take (k + 1) = ds.take k ++ [ds.getD k 0]) := fun k hk => by rw [List.take_succ_eq_append_getElem hk]; simp [List.getD, List.getElem?_eq_getElem hk]
  clear ha hc
  go_enter Tryd.func28, Tryd.ntmps28
  go_wp2_with fail
  go_loopw [9, 10, 11] (fun v9 v10 _ wr => ∃ k : Nat, k ≤ ds.length ∧ v10 = .int .i64 k ∧ v9 = .int .i64 (whoK (ds.take k) of item time below) ∧ wr = w) (fun _ v10 _ _ => ds.length - (intOf v10).toNat)
  case atStart => exact ⟨0, Nat.zero_le _, rfl, rfl, rfl⟩
  case round =>
    obtain ⟨k, hk, rfl, rfl, hwr⟩ := hrel
    rw [hwr]
    clear hwr
    obtain ⟨f, hf⟩ : ∃ f, whoK (ds.take k) of item time below = f := ⟨_, rfl⟩
    have HF : Hid (whoK (ds.take k) of item time below = f) := hf
    rw [hf]
    clear hf
    by_cases hlt : k < ds.length
    · obtain ⟨rfl, wv, c0, c2, c4, hi, hs⟩ := HE.out k hlt
      have HW : Hid (whoK (ds.take (k + 1)) of item time below = if (!inB (of (ds.getD k 0)).wrote item || decide (time ≤ (of (ds.getD k 0)).ended)) = true then f else if below = 0 then ds.getD k 0 else if ds.getD k 0 < below ∧ f < ds.getD k 0 then ds.getD k 0 else f) := by
        show _ = _
        rw [HT.out k hlt, whoK_snoc, HF.out]
      have HIN := in_any _ wv item w hi (by omega)
      clear hi hs
      generalize ds.getD k 0 = t at c0 c2 HW HIN
      generalize (of t).ended = ed at c2 HW
      generalize inB (of t).wrote item = bi at HW HIN
      have HIN' : Hid (Calls Tryd.prog 27 #[wv, .int .i64 item] w fun e w' => e = .returned (.bool bi) ∧ w' = w) := HIN
      clear HIN
      cases bi with
      | false =>
        have HQ : Hid (whoK (ds.take (k + 1)) of item time below = f) := by show _ = f; rw [HW.out]; simp
        go_wp2_with (go_at_call 27; refine HIN'.out.mono ?_; rintro e w' ⟨rfl, rfl⟩)
        go_roundw
        case rel => exact ⟨k + 1, by omega, by go_num, by rw [HQ.out], trivial⟩
        case measure => simp [intOf]; omega
      | true =>
        by_cases hend : time ≤ ed
        · have HQ : Hid (whoK (ds.take (k + 1)) of item time below = f) := by show _ = f; rw [HW.out]; simp [hend]
          go_wp2_with (go_at_call 27; refine HIN'.out.mono ?_; rintro e w' ⟨rfl, rfl⟩)
          go_roundw
          case rel => exact ⟨k + 1, by omega, by go_num, by rw [HQ.out], trivial⟩
          case measure => simp [intOf]; omega
        · have HQ0 : Hid (whoK (ds.take (k + 1)) of item time below = if below = 0 then t else if t < below ∧ f < t then t else f) := by show _ = _; rw [HW.out]; simp [hend]
          by_cases hz : below = 0
          · subst hz
            have HQ : Hid (whoK (ds.take (k + 1)) of item time 0 = t) := by show _ = t; rw [HQ0.out, if_pos rfl]
            go_wp2_with (go_at_call 27; refine HIN'.out.mono ?_; rintro e w' ⟨rfl, rfl⟩)
            go_roundw
            case rel => exact ⟨k + 1, by omega, by go_num, by rw [HQ.out], trivial⟩
            case measure => simp [intOf]; omega
          · have hz' : (below == 0) = false := by simpa using hz
            by_cases h1 : t < below
            · by_cases h2 : f < t
              · have HQ : Hid (whoK (ds.take (k + 1)) of item time below = t) := by show _ = t; rw [HQ0.out, if_neg hz, if_pos ⟨h1, h2⟩]
                go_wp2_with (go_at_call 27; refine HIN'.out.mono ?_; rintro e w' ⟨rfl, rfl⟩)
                go_roundw
                case rel => exact ⟨k + 1, by omega, by go_num, by rw [HQ.out], trivial⟩
                case measure => simp [intOf]; omega
              · have HQ : Hid (whoK (ds.take (k + 1)) of item time below = f) := by show _ = f; rw [HQ0.out, if_neg hz, if_neg (fun h => h2 h.2)]
                go_wp2_with (go_at_call 27; refine HIN'.out.mono ?_; rintro e w' ⟨rfl, rfl⟩)
                go_roundw
                case rel => exact ⟨k + 1, by omega, by go_num, by rw [HQ.out], trivial⟩
                case measure => simp [intOf]; omega
            · have HQ : Hid (whoK (ds.take (k + 1)) of item time below = f) := by show _ = f; rw [HQ0.out, if_neg hz, if_neg (fun h => h1 h.1)]
              go_wp2_with (go_at_call 27; refine HIN'.out.mono ?_; rintro e w' ⟨rfl, rfl⟩)
              go_roundw
              case rel => exact ⟨k + 1, by omega, by go_num, by rw [HQ.out], trivial⟩
              case measure => simp [intOf]; omega
    · have HR : Hid (whoK ds of item time below = f) := by
        show _ = f
        have h0 := HF.out
        rw [List.take_of_length_le (by omega)] at h0
        exact h0
      have hk' : k = ds.length := by omega
      clear hlt hk
      subst hk'
      go_wp2_with fail
      go_ret
      exact ⟨retN HR.out.symm, rfl⟩
end Go.Proofs.YtjaeaanpbdmfgafDoor
