/-
  PROVED HERE: lanelaw4.pieces gives deals one behind the other, each once, each reading one item, writing another one and committing; and the order in which they come. Old memory stays as it was.
  Conditions: none.
-/
import Derived.Test.YtjcaekhkeobhpahDoorMgan
import Derived.Test.YtjcaekhkeobhpahDoorRefGraph
import Derived.Test.YtjcaekhkeobhpahDoorRefIn
import Derived.Test.YtjcaekhkeobhpahDoorRegion
import Derived.Test.YtjcaekhkeobhpahDoorMgai
import Derived.RegionTactic
namespace Go.Proofs.YtjcaekhkeobhpahDoor
open Go.RowKit

/-- Two rows of one's own, of other types, lie apart. -/
theorem rows_apart {w : World} {b1 b2 e1 e2 s1 s2 n1 n2 : Nat} {v1 v2 : Value} {xs1 xs2 : List Value} (h1 : w.ownsRow b1 e1 s1 v1 n1 xs1) (h2 : w.ownsRow b2 e2 s2 v2 n2 xs2) (he : e1 ≠ e2) : v1.ownBlock = none ∨ v1.ownBlock ≠ v2.ownBlock := by
  obtain ⟨_, ⟨hv, _⟩ | ⟨g1, c1, cur1, hv1, _, hg1, _⟩⟩ := h1
  · exact .inl (by rw [hv]; rfl)
  · obtain ⟨_, ⟨hv, _⟩ | ⟨g2, c2, cur2, hv2, _, hg2, _⟩⟩ := h2
    · refine .inr ?_
      rw [hv1, hv]
      simp [Value.ownBlock]
    · refine .inr fun e => ?_
      rw [hv1, hv2] at e
      have e' : g1 = g2 := by simpa [Value.ownBlock] using e
      subst e'
      rw [hg1] at hg2
      simp at hg2
      exact he hg2.2
theorem three_at (W : World) (t a b : Int) : ∀ j u, (flat [(t, 1, a), (t, 2, b), (t, 3, 0)])[j]? = some u → (W.alloc (.cells #[.int .i64 t, .int .i64 1, .int .i64 a, .int .i64 t, .int .i64 2, .int .i64 b, .int .i64 t, .int .i64 3, .int .i64 0] 37)).cell? ((⟨W.heap.size, 0, none⟩ : Addr).add j) = some u := by
  intro j u hj
  match j, hj with
  | 0, hj => simp [flat] at hj; subst hj; simp [Addr.add]
  | 1, hj => simp [flat] at hj; subst hj; simp [Addr.add]
  | 2, hj => simp [flat] at hj; subst hj; simp [Addr.add]
  | 3, hj => simp [flat] at hj; subst hj; simp [Addr.add]
  | 4, hj => simp [flat] at hj; subst hj; simp [Addr.add]
  | 5, hj => simp [flat] at hj; subst hj; simp [Addr.add]
  | 6, hj => simp [flat] at hj; subst hj; simp [Addr.add]
  | 7, hj => simp [flat] at hj; subst hj; simp [Addr.add]
  | 8, hj => simp [flat] at hj; subst hj; simp [Addr.add]
  | k + 9, hj => simp [flat] at hj
theorem Deals1.snoc {ps : List Int} (h : Deals1 ps) {t : Int} (ht : dealB t = true) (hn : inB ps t = false) : Deals1 (ps ++ [t]) where
  deal := fun x hx => by
    rcases List.mem_append.1 hx with hx | hx
    · exact h.deal x hx
    · rw [List.mem_singleton.1 hx]; exact dealB_iff.1 ht
  once := by
    rw [List.nodup_append]
    refine ⟨h.once, by simp, fun a ha b hb => ?_⟩
    rw [List.mem_singleton.1 hb]
    exact fun e => inB_not.1 hn (e ▸ ha)

/-- Those of a list that are deals, each once. -/
def psL (l : List Int) : List Int := l.foldl (fun ps t => if (dealB t && !inB ps t) = true then ps ++ [t] else ps) []
theorem psL_snoc {l : List Int} {k : Nat} {t : Int} (hk : k < l.length) (ht : l.getD k 0 = t) : psL (l.take (k + 1)) = if (dealB t && !inB (psL (l.take k)) t) = true then psL (l.take k) ++ [t] else psL (l.take k) := by
  unfold psL
  rw [List.take_succ_eq_append_getElem hk, List.foldl_append]
  have : l[k] = t := by rw [← ht]; simp [List.getD, List.getElem?_eq_getElem hk]
  rw [this]
  rfl
set_option maxHeartbeats 8000000 in
set_option maxRecDepth 100000 in
theorem pieces_own (l : List Int) (v : Value) (a b : Int) (w : World) (hI : IsInts w v l) (hl : l.length ≤ 140737488355328) :
    Calls Tryd.prog 12 #[v, .int .i64 a, .int .i64 b] w fun e w' => ∃ ps, (Deals1 ps ∧ ps = psL (l.take 12)) ∧ ∃ v1 v2, e = .returned (.tuple #[v1, v2]) ∧ w'.ownsRow w.heap.size 37 3 v1 (piecesL a b ps).length (flat (piecesL a b ps)) ∧ IsInts w' v2 ps ∧ Below w.heap.size w w' := by
  obtain ⟨ad, bb, off, cap, rfl, ha, -, hbB, hc⟩ := hI
  have HU : Hid (∀ W, Below w.heap.size w W → ∀ k, k < l.length → ad = some ⟨bb, off, none⟩ ∧ W.cell? ⟨bb, off + k, none⟩ = some (.int .i64 (l.getD k 0)) ∧ bb < w.heap.size) := fun W hW k hk => by
    have hb : bb < w.heap.size := by
      rcases hbB with h | h
      · exact h
      · subst h; simp at hk
    exact ⟨ha (by omega), (hW.cell (p := ⟨bb, off + k, none⟩) hb).trans (hc k hk), hb⟩
  obtain ⟨i0, hi, hz0, hs0, hy0⟩ := info_parts infoInt
  have HT : Hid (Tryd.prog.info? 3 = some i0 ∧ i0.zero = some (.int .i64 0) ∧ i0.size = 1 ∧ i0.bytes = 8) := ⟨hi, hz0, hs0, hy0⟩
  clear hi hz0 hs0 hy0
  obtain ⟨j0, hi, hz0, hs0, hy0⟩ := info_parts infoOp
  have HP : Hid (Tryd.prog.info? 37 = some j0 ∧ j0.zero = some (.agg #[.int .i64 0, .int .i64 0, .int .i64 0]) ∧ j0.size = 3 ∧ j0.bytes = 24) := ⟨hi, hz0, hs0, hy0⟩
  clear hi hz0 hs0 hy0 ha hbB hc
  go_enter Tryd.func12, Tryd.ntmps12
  go_wp2_with fail
  go_loopw [8, 9, 10] (fun v8 v9 v10 wr => ∃ (k : Nat) (ps : List Int), k ≤ l.length ∧ k ≤ 12 ∧ v10 = .int .i64 k ∧ (Deals1 ps ∧ ps = psL (l.take k)) ∧ wr.ownsRow w.heap.size 37 3 v8 (piecesL a b ps).length (flat (piecesL a b ps)) ∧ wr.ownsRow w.heap.size 3 1 v9 ps.length (ps.map (Value.int .i64)) ∧ Below w.heap.size w wr) (fun _ _ v10 _ => l.length - (intOf v10).toNat)
  case atStart => exact ⟨0, [], Nat.zero_le _, Nat.zero_le _, rfl, ⟨⟨fun x hx => (by cases hx), List.nodup_nil⟩, rfl⟩, World.ownsRow_nil _ _ _ _, World.ownsRow_nil _ _ _ _, Below.refl _ _⟩
  case round =>
    obtain ⟨k, ps, hk, hk12, rfl, ⟨hds, hps⟩, hown8, hown9, hbel⟩ := hrel
    have HPS : Hid (ps = psL (l.take k)) := hps
    have HDS : Hid (Deals1 ps) := hds
    have hpl := hds.len
    have HO8 : Hid (wr.ownsRow w.heap.size 37 3 u8 (piecesL a b ps).length (flat (piecesL a b ps))) := hown8
    have HO9 : Hid (wr.ownsRow w.heap.size 3 1 u9 ps.length (ps.map (Value.int .i64))) := hown9
    have HI9 : Hid (IsInts wr u9 ps) := isInts_own hown9 rfl
    have hsz := hbel.size
    clear hds hown8 hown9 hps
    have hall : (l.length : Int) ≤ 140737488355328 := by omega
    by_cases hlt : k < l.length
    · have hlt' : (k : Int) < (l.length : Int) := by omega
      by_cases h12 : k < 12
      · have h12' : (k : Int) < 12 := by omega
        obtain ⟨hadr, c0, hblt⟩ := HU.out wr hbel k hlt
        subst hadr
        obtain ⟨t, ht⟩ : ∃ t, l.getD k 0 = t := ⟨_, rfl⟩
        rw [ht] at c0
        have HC : Hid (∀ W, Below w.heap.size w W → W.cell? ⟨bb, off + k, none⟩ = some (.int .i64 t)) := fun W hW => by rw [← ht]; exact (HU.out W hW k hlt).2.1
        have HTK : Hid (l.getD k 0 = t) := ht
        clear ht
        go_wp2_with fail
        refine (gTx_any t _).mono ?_
        rintro e wx ⟨rfl, hwx⟩
        rw [hwx]; clear hwx
        go_wp2_with fail
        refine (in_any ps _ t _ HI9.out (by omega)).mono ?_
        rintro e wx ⟨rfl, hwx⟩
        rw [hwx]; clear hwx
        cases hd : dealB t with
        | false =>
          have HPN : Hid (ps = psL (l.take (k + 1))) := by show _ = _; rw [psL_snoc hlt HTK.out, hd, if_neg (by simp)]; exact HPS.out
          go_wp2_with fail
          go_roundw
          case rel => exact ⟨k + 1, ps, by omega, by omega, by go_num, ⟨HDS.out, HPN.out⟩, HO8.out, HO9.out, hbel⟩
          case measure => simp [intOf]; omega
        | true =>
          cases hin : inB ps t with
          | true =>
            have HPN : Hid (ps = psL (l.take (k + 1))) := by show _ = _; rw [psL_snoc hlt HTK.out, ← HPS.out, hin, if_neg (by simp)]
            go_wp2_with fail
            go_roundw
            case rel => exact ⟨k + 1, ps, by omega, by omega, by go_num, ⟨HDS.out, HPN.out⟩, HO8.out, HO9.out, hbel⟩
            case measure => simp [intOf]; omega
          | false =>
            have HDN : Hid (Deals1 (ps ++ [t])) := HDS.out.snoc hd hin
            have HPN : Hid (ps ++ [t] = psL (l.take (k + 1))) := by show _ = _; rw [psL_snoc hlt HTK.out, ← HPS.out, hd, hin, if_pos (by decide)]
            have hpc : (piecesL a b ps).length = 3 * ps.length := pieces_len a b ps
            obtain ⟨n, hn⟩ : ∃ n, ps.length = n := ⟨_, rfl⟩
            obtain ⟨m, hm⟩ : ∃ m, (piecesL a b ps).length = m := ⟨_, rfl⟩
            rw [hn] at HO9 hpl hpc
            rw [hm] at HO8 hpc
            have HN : Hid (ps.length = n) := hn
            have HM : Hid ((piecesL a b ps).length = m) := hm
            obtain ⟨pl, hpl2⟩ : ∃ pl, piecesL a b ps = pl := ⟨_, rfl⟩
            have HPL : Hid (piecesL a b ps = pl) := hpl2
            rw [hpl2] at HO8
            clear hd hin hn hm hpl2
            go_wp2_with (at_builtin; refine wpList_append_own _ rfl (.tmp 39) (.tmp 44) 42 rfl w.heap.size 3 i0 (.int .i64 0) 1 8 Tryd.underlying42 HT.out.1 HT.out.2.1 HT.out.2.2.1 HT.out.2.2.2 rfl (by decide) u9 n (ps.map (Value.int .i64)) rfl (HO9.out.alloc _) ⟨wr.heap.size, 0, none⟩ 1 1 [.int .i64 t] rfl rfl (cell_one_new _ _ _) (by simp [Value.oneCell']) (by unfold maxLen; omega) (by omega) (by simp; omega) ?_; intro v9 w1 hown9 hgr9 hnil9)
            have hB1 := (hbel.alloc hsz _).grown hgr9 (by simp; omega) (fun m hm => (HO9.out.lt m hm).1)
            have HO81 : Hid (w1.ownsRow w.heap.size 37 3 u8 m (flat pl)) := (HO8.out.alloc _).kept hgr9 (rows_apart HO8.out HO9.out (by decide))
            have HO91 : Hid (w1.ownsRow w.heap.size 3 1 v9 (n + 1) (ps.map (Value.int .i64) ++ [.int .i64 t])) := hown9
            have HB1 : Hid (Below w.heap.size w w1) := hB1
            have d0 := HC.out w1 hB1
            have hsz1 := hB1.size
            clear hown9 hgr9 hnil9 hB1 c0
            go_region_law (refine step_append_own rfl (.tmp 46) (.tmp 64) 22 rfl w.heap.size 37 j0 (.agg #[.int .i64 0, .int .i64 0, .int .i64 0]) 3 24 Tryd.underlying22 HP.out.1 HP.out.2.1 HP.out.2.2.1 HP.out.2.2.2 rfl (by decide) u8 m (flat pl) (by simp [Act.eval]) (HO81.out.alloc _) ⟨w1.heap.size, 0, none⟩ 3 3 (flat [(t, 1, a), (t, 2, b), (t, 3, 0)]) (by simp [Act.eval]) rfl (three_at w1 t a b) (flat_one _) (by unfold maxLen; omega) (by omega) (by simp; omega) ?_; intro v8 w2 hown8 hgr8 hnil8)
            all_goals
              have hB2 := (HB1.out.alloc hsz1 _).drew.grown hgr8 (by simp; omega) (fun m hm => (HO81.out.lt m hm).1)
              have HO92 : Hid (w2.ownsRow w.heap.size 3 1 v9 (n + 1) (ps.map (Value.int .i64) ++ [.int .i64 t])) := (HO91.out.alloc _).drew.kept hgr8 (rows_apart HO91.out HO81.out (by decide))
              go_wp2
              go_roundw
              case rel => exact ⟨k + 1, ps ++ [t], by omega, by omega, by go_num, ⟨HDN.out, HPN.out⟩, by rw [pieces_snoc, HPL.out, flat_append, List.length_append, ← HPL.out, HM.out, HPL.out]; exact hown8, by simpa [HN.out] using HO92.out, hB2⟩
              case measure => simp [intOf]; omega
      · have h12' : ¬ (k : Int) < 12 := by omega
        have HPE : Hid (ps = psL (l.take 12)) := by show _ = _; rw [HPS.out, show k = 12 by omega]
        go_wp2_with fail
        go_ret2
        exact ⟨ps, ⟨HDS.out, HPE.out⟩, _, _, rfl, HO8.out, HI9.out, hbel⟩
    · have hlt' : ¬ (k : Int) < (l.length : Int) := by omega
      have HPE : Hid (ps = psL (l.take 12)) := by show _ = _; rw [HPS.out, List.take_of_length_le (show l.length ≤ k by omega), List.take_of_length_le (show l.length ≤ 12 by omega)]
      go_wp2_with fail
      go_ret2
      exact ⟨ps, ⟨HDS.out, HPE.out⟩, _, _, rfl, HO8.out, HI9.out, hbel⟩
theorem pieces_of (l : List Int) (v : Value) (a b : Int) (w : World) (hI : IsInts w v l) (hl : l.length ≤ 140737488355328) :
    Calls Tryd.prog 12 #[v, .int .i64 a, .int .i64 b] w fun e w' => ∃ ps, (Deals1 ps ∧ ps = psL (l.take 12)) ∧ ∃ v1 v2, e = .returned (.tuple #[v1, v2]) ∧ IsOps w' v1 (piecesL a b ps) ∧ IsInts w' v2 ps ∧ Below w.heap.size w w' :=
  (pieces_own l v a b w hI hl).mono fun _ _ ⟨ps, hd, v1, v2, he, ho, hi, hb⟩ => ⟨ps, hd, v1, v2, he, isOps_own ho rfl, hi, hb⟩
theorem pieces_any (l : List Int) (v : Value) (a b : Int) (w : World) (hI : IsInts w v l) (hl : l.length ≤ 140737488355328) :
    Calls Tryd.prog 12 #[v, .int .i64 a, .int .i64 b] w fun e w' => ∃ ps, Deals1 ps ∧ ∃ v1 v2, e = .returned (.tuple #[v1, v2]) ∧ IsOps w' v1 (piecesL a b ps) ∧ IsInts w' v2 ps ∧ Below w.heap.size w w' :=
  (pieces_of l v a b w hI hl).mono fun _ _ ⟨ps, hd, h⟩ => ⟨ps, hd.1, h⟩
end Go.Proofs.YtjcaekhkeobhpahDoor
