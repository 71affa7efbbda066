/-
  PROVED HERE: graph.Reach tells whether there is a way of at least one edge; of wrong edges Check's error, of numbers that are no deals ErrRange. Old memory stays as it was.
  Conditions: none.
  PROVED HERE: strict.lane's method isInRing, over a run in memory: does a deal wait for itself, by way of others.
  Conditions: the lists are short, name deals, and what is said of those that wait fits the table.
-/
import Derived.Test.YtccjognnehoodahGreatMgbx
import Derived.Test.YtccjognnehoodahGreatMgbw
import Derived.Test.YtccjognnehoodahGreatMgbv
import Derived.Test.YtccjognnehoodahGreatMgag
namespace Go.Proofs.YtccjognnehoodahGreat
open Go.RowKit

theorem reach_bad (l : List Edge2) (v : Value) (a b : Int) (w : World) (hI : IsEdges w v l) (hc : gchk l ≠ 0) :
    Calls Tryz.prog 161 #[v, .int .i64 a, .int .i64 b] w fun e w' => e = .returned (.tuple #[.bool false, .iface 61 (.int .i64 (gchk l))]) ∧ Below w.heap.size w w' := by
  go_enter Tryz.func161, Tryz.ntmps161
  go_wp2_with (go_at_call 89; refine (gcheck_bad l _ _ hI hc).mono ?_; rintro e w1 ⟨rfl, hb1⟩)
  go_ret2
  exact ⟨rfl, hb1⟩
set_option maxHeartbeats 2000000 in
theorem reach_range (l : List Edge2) (v : Value) (a b : Int) (w : World) (hI : IsEdges w v l) (hc : gchk l = 0) (hr : dealB a = false ∨ dealB b = false) :
    Calls Tryz.prog 161 #[v, .int .i64 a, .int .i64 b] w fun e w' => e = .returned (.tuple #[.bool false, .iface 61 (.int .i64 1)]) ∧ Below w.heap.size w w' := by
  go_enter Tryz.func161, Tryz.ntmps161
  go_wp2_with fail
  refine (gcheck_ok l _ _ hI hc).mono ?_
  rintro e w1 ⟨rfl, hb1⟩
  go_wp2_with fail
  refine (isDeal_any _ _).mono ?_
  rintro e wx ⟨rfl, hwx⟩
  rw [hwx]; clear hwx
  cases ha : dealB a with
  | false =>
    go_wp2_with fail
    go_ret2
    exact ⟨rfl, hb1⟩
  | true =>
    have hb : dealB b = false := by
      rcases hr with h | h
      · rw [ha] at h; cases h
      · exact h
    clear ha hr
    go_wp2_with fail
    refine (isDeal_any _ _).mono ?_
    rintro e wx ⟨rfl, hwx⟩
    rw [hwx, hb]; clear hwx
    go_wp2_with fail
    go_ret2
    exact ⟨rfl, hb1⟩
set_option maxHeartbeats 2000000 in
theorem reach_any (l : List Edge2) (v : Value) (a b : Nat) (w : World) (hI : IsEdges w v l) (hc : gchk l = 0) (ha : dealB a = true) (hb : dealB b = true) :
    Calls Tryz.prog 161 #[v, .int .i64 a, .int .i64 b] w fun e w' => ∃ x : Bool, e = .returned (.tuple #[.bool x, .nilIface]) ∧ (x = true ↔ Way (stepsS l) a b) ∧ Below w.heap.size w w' := by
  have hl := gchk_len hc
  have HD : Hid (∀ e ∈ l, (1 ≤ e.1 ∧ e.1 ≤ 6) ∧ (1 ≤ e.2 ∧ e.2 ≤ 6)) := gchk_deal hc
  have ha6 := dealB_iff.1 ha
  have hb6 := dealB_iff.1 hb
  go_enter Tryz.func161, Tryz.ntmps161
  go_wp2_with fail
  refine (gcheck_ok l _ _ hI hc).mono ?_
  rintro e w1 ⟨rfl, hb1⟩
  go_wp2_with fail
  refine (isDeal_any _ _).mono ?_
  rintro e wx ⟨rfl, hwx⟩
  rw [hwx, ha]; clear hwx
  go_wp2_with fail
  refine (isDeal_any _ _).mono ?_
  rintro e wx ⟨rfl, hwx⟩
  rw [hwx, hb]; clear hwx
  go_wp2_with fail
  refine (stepsOf_any l _ _ (hI.below hb1 (Nat.le_refl _)) HD.out hl).mono ?_
  rintro e w2 ⟨rfl, hb2⟩
  have hb02 := hb1.trans (hb2.mono hb1.size)
  go_wp2_with fail
  refine (reached_any a (stepsS l) _ (by omega)).mono ?_
  rintro e w3 ⟨s', rfl, hs', hb3⟩
  have hb03 := hb02.trans (hb3.mono hb02.size)
  have HW : Hid (s' b = true ↔ Way (stepsS l) a b) := seen_way (fun y z h => by have := (steps_lt HD.out h).2; omega) hs' b
  have hidx : ∀ W, (Instr.index 143 (.agg #[.bool (s' 0), .bool (s' 1), .bool (s' 2), .bool (s' 3), .bool (s' 4), .bool (s' 5), .bool (s' 6)]) (.int .i64 b)).run Tryz.prog W = .ok (.bool (s' b)) W := fun W => index_row s' b (by omega) W
  clear hs'
  go_wp2_with fail
  go_ret2
  exact ⟨s' b, rfl, HW.out, hb03⟩
end Go.Proofs.YtccjognnehoodahGreat

namespace Go.Proofs.YtccjognnehoodahGreat
open Go.RowKit

theorem reachP (l : List Edge2) (v : Value) (a b : Nat) (w : World) (hI : IsEdges w v l) (hc : gchk l = 0) (ha : dealB a = true) (hb : dealB b = true) (q : Bool) (hq : q = true ↔ Way (stepsS l) a b) :
    Calls Tryz.prog 161 #[v, .int .i64 a, .int .i64 b] w fun e w' => e = .returned (.tuple #[.bool q, .nilIface]) ∧ Below w.heap.size w w' := by
  refine (reach_any l v a b w hI hc ha hb).mono ?_
  rintro e w' ⟨x, rfl, hx, hb'⟩
  obtain rfl : x = q := by
    cases x <;> cases q
    · rfl
    · exact absurd (hx.2 (hq.1 rfl)) (by decide)
    · exact absurd (hq.2 (hx.1 rfl)) (by decide)
    · rfl
  exact ⟨rfl, hb'⟩
theorem edges_gchk0 {l : List Edge2} (hl : l.length ≤ 60) (hd : ∀ e ∈ l, (1 ≤ e.1 ∧ e.1 ≤ 6) ∧ (1 ≤ e.2 ∧ e.2 ≤ 6)) : gchk l = 0 := by
  unfold gchk
  rw [if_neg (by omega), if_neg]
  intro h
  obtain ⟨e, he, hw⟩ := List.any_eq_true.1 h
  have := hd e he
  simp [wrongB, dealB] at hw
  omega
set_option maxHeartbeats 8000000 in
set_option maxRecDepth 100000 in
theorem isInRing_run {R : Nat} {way : Int} {r : Runr} {P : Int → Option Op3} {c : Lay} {w : World} (h : LaneAt w R way r (wm r P) c) (hf : Fits r P) {t : Nat} (ht1 : 1 ≤ t) (ht6 : t ≤ 6) (hl1 : r.tab.1.length ≤ 400) (hl2 : r.tab.2.length ≤ 400) (hw : ∀ d x, x ∈ whomR r.tab d → 1 ≤ x ∧ x ≤ 6) :
    Calls Tryz.prog 144 #[.pointer (some ⟨R, 0, none⟩), .int .i64 t] w fun e w' => e = .returned (.bool (ringR r.tab t)) ∧ Below w.heap.size w w' := by
  have HF : Hid (∀ W d, Below w.heap.size w W → 1 ≤ d → d ≤ 6 → Calls Tryz.prog 147 #[.pointer (some ⟨R, 0, none⟩), .int .i64 d] W fun e w' => ∃ v, e = .returned v ∧ OwnI w' W.heap.size v (whomR r.tab d) ∧ Below W.heap.size W w') := fun W d hW h1 h6 => waitsFor_run (h.below hW) hf (wf_deal h1 h6) hl1 hl2
  obtain ⟨s, hs⟩ : ∃ s, r.tab = s := ⟨_, rfl⟩
  rw [hs] at HF hw ⊢
  have HW : Hid (∀ d x, x ∈ whomR s d → 1 ≤ x ∧ x ≤ 6) := hw
  have HRG : Hid (ringR s t = warTo (edgesK s 6) 6 t t) := rfl
  obtain ⟨i0, hi, hz0, hs0, hy0⟩ := info_parts infoEdge
  have HI : Hid (Tryz.prog.info? 139 = some i0 ∧ i0.zero = some (.agg #[.int .i64 0, .int .i64 0]) ∧ i0.size = 2 ∧ i0.bytes = 16) := ⟨hi, hz0, hs0, hy0⟩
  clear hw hs hi hz0 hs0 hy0 h hf hl1 hl2
  go_enter Tryz.func144, Tryz.ntmps144
  go_wp2_with fail
  go_loopw [5, 6] (fun v5 v6 wr => ∃ k : Nat, k ≤ 6 ∧ v6 = .int .i64 ((k : Int) + 1) ∧ wr.ownsRow w.heap.size 139 2 v5 (edgesK s k).length (flatE (edgesK s k)) ∧ Below w.heap.size w wr) (fun _ v6 _ => 8 - (intOf v6).toNat)
  case atStart => exact ⟨0, by omega, by go_num, World.ownsRow_nil _ _ _ _, Below.refl _ _⟩
  case round =>
    obtain ⟨k, hk, rfl, hown, hbel⟩ := hrel
    have HOWN : Hid (wr.ownsRow w.heap.size 139 2 u5 (edgesK s k).length (flatE (edgesK s k))) := hown
    have HB : Hid (Below w.heap.size w wr) := hbel
    clear hown hbel
    by_cases hlt : k < 6
    · have hlt' : (k : Int) + 1 ≤ 6 := by omega
      go_wp2_with fail
      refine (HF.out wr ((k : Int) + 1) HB.out (by omega) (by omega)).mono ?_
      rintro e w2 ⟨v2, rfl, hi2, hb2⟩
      have HB2 : Hid (Below w.heap.size w w2) := HB.out.trans (hb2.mono HB.out.size)
      have HO2 : Hid (w2.ownsRow w.heap.size 139 2 u5 (edgesK s k).length (flatE (edgesK s k))) := own_below HOWN.out hb2 (Nat.le_refl _)
      obtain ⟨ws, hws⟩ : ∃ ws, whomR s ((k : Int) + 1) = ws := ⟨_, rfl⟩
      have HWS : Hid (whomR s ((k : Int) + 1) = ws ∧ (edgesK s k).length ≤ 36) := ⟨hws, by have := edgesK_len HW.out k; omega⟩
      have hws6 : ws.length ≤ 6 := by rw [← hws]; exact whom_six HW.out _
      rw [hws] at hi2
      have HI2 : Hid (OwnI w2 w.heap.size v2 ws) := hi2.less HB.out.size
      obtain ⟨ad, cap, hv2, -⟩ := own_slice3 hi2
      subst hv2
      clear hb2 hws HB HOWN hi2
      go_wp2_with fail
      go_loopw [5, 19] (fun v5 v8 wr => ∃ j : Nat, j ≤ ws.length ∧ v8 = .int .i64 j ∧ wr.ownsRow w.heap.size 139 2 v5 ((edgesK s k).length + j) (flatE (edgesK s k ++ (ws.take j).map fun x => ((k : Int) + 1, x))) ∧ OwnI wr w.heap.size (.slice ad ws.length cap) ws ∧ Below w.heap.size w wr) (fun _ v8 _ => ws.length - (intOf v8).toNat)
      case atStart => exact ⟨0, Nat.zero_le _, rfl, by simpa using HO2.out, HI2.out, HB2.out⟩
      case round =>
        obtain ⟨j, hj, rfl, hown, hints, hbel⟩ := hrel
        have HB3 : Hid (Below w.heap.size w wr) := hbel
        have HIN : Hid (OwnI wr w.heap.size (.slice ad ws.length cap) ws) := hints
        have hsz : w.heap.size ≤ wr.heap.size := hbel.size
        clear hbel
        by_cases hjl : j < ws.length
        · have hjl' : (j : Int) < (ws.length : Int) := by omega
          obtain ⟨g, hadr, -, -, -⟩ := (own_slice3 hints).elim fun _ h => h.elim fun _ h => by
            obtain ⟨e, h⟩ := h
            simp only [Value.slice.injEq, true_and] at e
            obtain ⟨rfl, rfl⟩ := e
            exact h (by omega)
          subst hadr
          obtain ⟨x, hx⟩ : ∃ x, ws.getD j 0 = x := ⟨_, rfl⟩
          have c0 : wr.cell? ⟨g, j, none⟩ = some (.int .i64 x) := by
            have h1 : wr.ownsRow w.heap.size 3 1 (.slice (some ⟨g, 0, none⟩) ws.length cap) ws.length (ws.map (Value.int .i64)) := hints
            have h2 := h1.cells (g := g) rfl j (.int .i64 x) (by rw [List.getElem?_map, List.getElem?_eq_getElem hjl, ← hx]; simp [List.getD, hjl])
            rw [Addr.add_lit, Nat.zero_add] at h2
            exact h2
          have HX : Hid (ws.take (j + 1) = ws.take j ++ [x]) := by
            show ws.take (j + 1) = _
            rw [List.take_succ_eq_append_getElem hjl, ← hx]
            simp [List.getD, hjl]
          obtain ⟨n, hn⟩ : ∃ n, (edgesK s k).length + j = n := ⟨_, rfl⟩
          have hn1 : n ≤ 60 := by have := HWS.out.2; omega
          have HN : Hid ((edgesK s k).length + j = n) := hn
          rw [hn] at hown
          have HOW : Hid (wr.ownsRow w.heap.size 139 2 u5 n (flatE (edgesK s k ++ (ws.take j).map fun x => ((k : Int) + 1, x)))) := hown
          clear hown hx hn hints
          go_wp2_with (at_builtin; refine wpList_append_own _ rfl (.tmp 23) (.tmp 27) 103 rfl w.heap.size 139 i0 (.agg #[.int .i64 0, .int .i64 0]) 2 16 Tryz.underlying103 HI.out.1 HI.out.2.1 HI.out.2.2.1 HI.out.2.2.2 rfl (by decide) u5 n (flatE (edgesK s k ++ (ws.take j).map fun x => ((k : Int) + 1, x))) rfl (HOW.out.alloc _) ⟨wr.heap.size, 0, none⟩ 1 1 (flatE [((k : Int) + 1, x)]) rfl rfl (one_edge wr ((k : Int) + 1) x) (flatE_one _) (by unfold maxLen; omega) (by omega) (by simp; omega) ?_; intro v4 w4 hown4 hgr4 hnil4)
          have hb4 : Below w.heap.size w w4 := (HB3.out.alloc hsz _).grown hgr4 (by simp; omega) fun q hq => (HOW.out.lt q hq).1
          have hi4 : OwnI w4 w.heap.size (.slice (some ⟨g, 0, none⟩) ws.length cap) ws := World.ownsRow.kept (World.ownsRow.alloc HIN.out _) hgr4 (unlike_apart HIN.out HOW.out (by decide))
          go_roundw
          case rel => exact ⟨j + 1, by omega, by go_num, by rw [← Nat.add_assoc, HN.out, HX.out, List.map_append, ← List.append_assoc, flatE_append]; exact hown4, hi4, hb4⟩
          case measure => simp [intOf]; omega
        · have hjl' : ¬ (j : Int) < (ws.length : Int) := by omega
          obtain rfl : j = ws.length := by omega
          have HO3 : Hid (wr.ownsRow w.heap.size 139 2 u5 (edgesK s (k + 1)).length (flatE (edgesK s (k + 1)))) := by
            show World.ownsRow _ _ _ _ _ _ _
            rw [edgesK_succ, HWS.out.1, List.length_append, List.length_map]
            rw [List.take_length] at hown
            exact hown
          clear hown hints
          go_wp2_with fail
          go_roundw
          case rel => exact ⟨k + 1, by omega, by go_num, HO3.out, HB3.out⟩
          case measure => simp [intOf]; omega
    · have hlt' : ¬ (k : Int) + 1 ≤ 6 := by omega
      obtain rfl : k = 6 := by omega
      have hde := edgesK_deals HW.out
      have hle : (edgesK s 6).length ≤ 60 := by have := edgesK_len HW.out 6; omega
      have hc0 := edges_gchk0 hle hde
      have hdt : dealB (t : Int) = true := by simp [dealB]; omega
      have hway := war_way (l := edgesK s 6) hde t t
      obtain ⟨q, hb⟩ : ∃ q, warTo (edgesK s 6) 6 t t = q := ⟨_, rfl⟩
      rw [hb] at HRG hway
      have HRE : Hid (Calls Tryz.prog 161 #[u5, .int .i64 t, .int .i64 t] wr fun e w' => e = .returned (.tuple #[.bool q, .nilIface]) ∧ Below wr.heap.size wr w') := reachP (edgesK s 6) u5 t t wr (isEdges_own HOWN.out rfl) hc0 hdt hdt q hway
      clear hde hle hc0 hdt hway hb
      go_wp2_with fail
      refine HRE.out.mono ?_
      rintro e w2 ⟨rfl, hb2⟩
      go_wp2_with fail
      go_ret
      exact ⟨by rw [HRG.out]; rfl, HB.out.trans (hb2.mono HB.out.size)⟩
end Go.Proofs.YtccjognnehoodahGreat
