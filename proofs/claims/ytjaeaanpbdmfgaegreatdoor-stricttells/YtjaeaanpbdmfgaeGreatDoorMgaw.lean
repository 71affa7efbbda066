/-
  PROVED HERE: plain facts on who waits for whom, as edges; two rows of unlike types lie apart.
  Conditions: none.
  PROVED HERE: laneref2.Runner's method ring, over a runner in memory: does a deal wait for itself, by those for which it waits, and so on. Old memory stays as it was.
  Conditions: the lists are short, and name deals.
  PROVED HERE: plain facts: how long the lists can be while deals ask; what aborting one makes of that.
  Conditions: none.
-/
import Derived.Test.YtjaeaanpbdmfgaeGreatDoorMgam
import Derived.Test.YtjaeaanpbdmfgaeGreatDoorMgaf
import Derived.Test.YtjaeaanpbdmfgaeGreatDoorMgat
import Derived.Test.YtjaeaanpbdmfgaeGreatDoorRefWays
import Derived.Laws.CopyOwn
namespace Go.Proofs.YtjaeaanpbdmfgaeGreatDoor
open Go.RowKit

theorem putL_rise {l : List Int} (h : l.Pairwise (· < ·)) (n : Int) : (putL l n).Pairwise (· < ·) := by
  induction l with
  | nil => simp [putL]
  | cons x q ih =>
    rw [List.pairwise_cons] at h
    unfold putL
    split
    · exact List.pairwise_cons.2 h
    · split
      · rename_i h2
        refine List.pairwise_cons.2 ⟨fun y hy => ?_, List.pairwise_cons.2 h⟩
        rcases List.mem_cons.1 hy with rfl | hy
        · exact h2
        · have := h.1 y hy; omega
      · rename_i h1 h2
        refine List.pairwise_cons.2 ⟨fun y hy => ?_, ih h.2⟩
        rcases mem_putL hy with rfl | hy
        · omega
        · exact h.1 y hy
theorem putsO_rise (l : List Op3) : ∀ {o : List Int}, o.Pairwise (· < ·) → (putsO o l).Pairwise (· < ·) := by
  induction l with
  | nil => intro o h; exact h
  | cons x q ih => intro o h; exact ih (putL_rise h x.1)
theorem whom_rise (s : Tab2) (t : Int) : (whomR s t).Pairwise (· < ·) := by
  unfold whomR
  split
  · exact List.Pairwise.nil
  · unfold forT
    exact putsO_rise _ (putsO_rise _ List.Pairwise.nil)
theorem whom_six {s : Tab2} (h : ∀ d x, x ∈ whomR s d → 1 ≤ x ∧ x ≤ 6) (t : Int) : (whomR s t).length ≤ 6 := by
  have h1 : (whomR s t).Nodup := (whom_rise s t).imp fun h => by omega
  have h2 := h1.length_le_of_subset (l₂ := [1, 2, 3, 4, 5, 6]) fun x hx => by
    have := h t x hx
    simp; omega
  simpa using h2
/-- The edges of the first k deals. -/
def edgesK (s : Tab2) (k : Nat) : List Edge2 := (List.range k).flatMap fun (d : Nat) => (whomR s ((d : Int) + 1)).map fun x => ((d : Int) + 1, x)
theorem edgesK_succ (s : Tab2) (k : Nat) : edgesK s (k + 1) = edgesK s k ++ (whomR s ((k : Int) + 1)).map fun x => ((k : Int) + 1, x) := by
  unfold edgesK
  rw [List.range_succ, List.flatMap_append]
  simp
theorem edgesK_len {s : Tab2} (h : ∀ d x, x ∈ whomR s d → 1 ≤ x ∧ x ≤ 6) (k : Nat) : (edgesK s k).length ≤ 6 * k := by
  induction k with
  | zero => simp [edgesK]
  | succ k ih =>
    rw [edgesK_succ, List.length_append, List.length_map]
    have := whom_six h ((k : Int) + 1)
    omega
theorem edgesK_deals {s : Tab2} (h : ∀ d x, x ∈ whomR s d → 1 ≤ x ∧ x ≤ 6) : ∀ e ∈ edgesK s 6, (1 ≤ e.1 ∧ e.1 ≤ 6) ∧ (1 ≤ e.2 ∧ e.2 ≤ 6) := by
  intro e he
  unfold edgesK at he
  obtain ⟨d, hd, he⟩ := List.mem_flatMap.1 he
  obtain ⟨x, hx, rfl⟩ := List.mem_map.1 he
  have := List.mem_range.1 hd
  exact ⟨by simp only; omega, h _ x hx⟩
/-- Two rows of unlike types lie apart. -/
theorem unlike_apart {w : World} {b1 b2 e1 e2 z1 z2 n1 n2 : Nat} {v1 v2 : Value} {x1 x2 : List Value} (h1 : w.ownsRow b1 e1 z1 v1 n1 x1) (h2 : w.ownsRow b2 e2 z2 v2 n2 x2) (he : e1 ≠ e2) : v1.ownBlock = none ∨ v1.ownBlock ≠ v2.ownBlock := by
  obtain ⟨_, ⟨hv, _⟩ | ⟨g, cap, cur, hv, _, hg, _⟩⟩ := h1
  · exact .inl (by rw [hv]; rfl)
  · refine .inr fun e => ?_
    obtain ⟨_, ⟨hv2, _⟩ | ⟨g2, cap2, cur2, hv2, _, hg2, _⟩⟩ := h2
    · rw [hv, hv2] at e; cases e
    · rw [hv, hv2] at e
      simp only [Value.ownBlock, Option.some.injEq] at e
      subst e
      rw [hg] at hg2
      simp only [Option.some.injEq, Obj.cells.injEq] at hg2
      exact he hg2.2.1
end Go.Proofs.YtjaeaanpbdmfgaeGreatDoor

namespace Go.Proofs.YtjaeaanpbdmfgaeGreatDoor
open Go.RowKit

theorem mat_split {c : Code} {Q : Exit → Act → World → Prop} {a : Act} (w : World) (Z : Array Value) (S : Step7) (hZ : cells49 (fun _ _ => false) = Z) (h : ∀ W, MatT 83 W w.heap.size S → Below w.heap.size w W → Code.wp Tryz.prog c Q a W) :
    Code.wp Tryz.prog c Q a ((w.alloc (.cells Z 83)).setRow w.heap.size (cells49 S)) := by
  subst hZ
  exact h _ (setRow_heap _ _ _ _ _ _ (matT_box _ w _)) (below_setRow ((Below.refl _ w).alloc (Nat.le_refl _) _) (Nat.le_refl _) _)
set_option maxHeartbeats 8000000 in
set_option maxRecDepth 100000 in
theorem ring_run (R : Nat) (way : Int) (r : Runr) (rv : Nat → Value) (t : Int) (w : World) (h : RunAt w R way r rv) (hl1 : r.tab.1.length ≤ 900) (hl2 : r.tab.2.length ≤ 900) (hw : ∀ d x, x ∈ whomR r.tab d → 1 ≤ x ∧ x ≤ 6) (ht1 : 1 ≤ t) (ht6 : t ≤ 6) :
    Calls Tryz.prog 21 #[.pointer (some ⟨R, 0, none⟩), .int .i64 t] w fun e w' => e = .returned (.bool (ringR r.tab t)) ∧ Below w.heap.size w w' := by
  have HF : Hid (∀ W d, Below w.heap.size w W → Calls Tryz.prog 20 #[.pointer (some ⟨R, 0, none⟩), .int .i64 d] W fun e w' => ∃ v', e = .returned v' ∧ OwnI w' W.heap.size v' (whomR r.tab d) ∧ Below W.heap.size W w') := fun W d hW => forWhom_any R way r rv d W (h.below hW) hl1 hl2
  obtain ⟨s, hs⟩ : ∃ s, r.tab = s := ⟨_, rfl⟩
  rw [hs] at HF hw ⊢
  have HW : Hid (∀ d x, x ∈ whomR s d → 1 ≤ x ∧ x ≤ 6) := hw
  have HRG : Hid (ringR s t = warTo (edgesK s 6) 6 t.toNat t.toNat) := rfl
  obtain ⟨i0, hi, hz0, hs0, hy0⟩ := info_parts infoEdge
  have HI : Hid (Tryz.prog.info? 82 = some i0 ∧ i0.zero = some (.agg #[.int .i64 0, .int .i64 0]) ∧ i0.size = 2 ∧ i0.bytes = 16) := ⟨hi, hz0, hs0, hy0⟩
  clear h hs hw hl1 hl2 hi hz0 hs0 hy0
  go_enter Tryz.func21, Tryz.ntmps21
  go_wp2_with fail
  go_loopw [5, 6] (fun v5 v6 wr => ∃ k : Nat, k ≤ 6 ∧ v6 = .int .i64 ((k : Int) + 1) ∧ wr.ownsRow w.heap.size 82 2 v5 (edgesK s k).length (flatE (edgesK s k)) ∧ Below w.heap.size w wr) (fun _ v6 _ => 8 - (intOf v6).toNat)
  case atStart => exact ⟨0, by omega, by go_num, World.ownsRow_nil _ _ _ _, Below.refl _ _⟩
  case round =>
    obtain ⟨k, hk, rfl, hown, hbel⟩ := hrel
    have HOWN : Hid (wr.ownsRow w.heap.size 82 2 u5 (edgesK s k).length (flatE (edgesK s k))) := hown
    have HB : Hid (Below w.heap.size w wr) := hbel
    clear hown hbel
    by_cases hlt : k < 6
    · have hlt' : (k : Int) + 1 ≤ 6 := by omega
      go_wp2_with fail
      refine (HF.out wr ((k : Int) + 1) HB.out).mono ?_
      rintro e w2 ⟨v2, rfl, hi2, hb2⟩
      have HB2 : Hid (Below w.heap.size w w2) := HB.out.trans (hb2.mono HB.out.size)
      have HO2 : Hid (w2.ownsRow w.heap.size 82 2 u5 (edgesK s k).length (flatE (edgesK s k))) := own_below HOWN.out hb2 (Nat.le_refl _)
      obtain ⟨ws, hws⟩ : ∃ ws, whomR s ((k : Int) + 1) = ws := ⟨_, rfl⟩
      have HWS : Hid (whomR s ((k : Int) + 1) = ws ∧ (edgesK s k).length ≤ 36) := ⟨hws, by have := edgesK_len HW.out k; omega⟩
      have hws6 : ws.length ≤ 6 := by rw [← hws]; exact whom_six HW.out _
      rw [hws] at hi2
      have HI2 : Hid (OwnI w2 w.heap.size v2 ws) := hi2.less HB.out.size
      obtain ⟨ad, cap, hv2, -⟩ := own_slice3 hi2
      subst hv2
      clear hb2 hws HB HOWN hi2
      go_wp2_with fail
      go_loopw [5, 8] (fun v5 v8 wr => ∃ j : Nat, j ≤ ws.length ∧ v8 = .int .i64 j ∧ wr.ownsRow w.heap.size 82 2 v5 ((edgesK s k).length + j) (flatE (edgesK s k ++ (ws.take j).map fun x => ((k : Int) + 1, x))) ∧ OwnI wr w.heap.size (.slice ad ws.length cap) ws ∧ Below w.heap.size w wr) (fun _ v8 _ => ws.length - (intOf v8).toNat)
      case atStart => exact ⟨0, Nat.zero_le _, rfl, by simpa using HO2.out, HI2.out, HB2.out⟩
      case round =>
        obtain ⟨j, hj, rfl, hown, hints, hbel⟩ := hrel
        have HB3 : Hid (Below w.heap.size w wr) := hbel
        have HIN : Hid (OwnI wr w.heap.size (.slice ad ws.length cap) ws) := hints
        have hsz : w.heap.size ≤ wr.heap.size := hbel.size
        clear hbel
        by_cases hjl : j < ws.length
        · have hjl' : (j : Int) < (ws.length : Int) := by omega
          obtain ⟨g, hadr, -, -, -⟩ := (own_slice3 hints).elim fun _ h => h.elim fun _ h => by
            obtain ⟨e, h⟩ := h
            simp only [Value.slice.injEq, true_and] at e
            obtain ⟨rfl, rfl⟩ := e
            exact h (by omega)
          subst hadr
          obtain ⟨x, hx⟩ : ∃ x, ws.getD j 0 = x := ⟨_, rfl⟩
          have c0 : wr.cell? ⟨g, j, none⟩ = some (.int .i64 x) := by
            have h1 : wr.ownsRow w.heap.size 3 1 (.slice (some ⟨g, 0, none⟩) ws.length cap) ws.length (ws.map (Value.int .i64)) := hints
            have h2 := h1.cells (g := g) rfl j (.int .i64 x) (by rw [List.getElem?_map, List.getElem?_eq_getElem hjl, ← hx]; simp [List.getD, hjl])
            rw [Addr.add_lit, Nat.zero_add] at h2
            exact h2
          have HX : Hid (ws.take (j + 1) = ws.take j ++ [x]) := by
            show ws.take (j + 1) = _
            rw [List.take_succ_eq_append_getElem hjl, ← hx]
            simp [List.getD, hjl]
          obtain ⟨n, hn⟩ : ∃ n, (edgesK s k).length + j = n := ⟨_, rfl⟩
          have hn1 : n ≤ 60 := by have := HWS.out.2; omega
          have HN : Hid ((edgesK s k).length + j = n) := hn
          rw [hn] at hown
          have HOW : Hid (wr.ownsRow w.heap.size 82 2 u5 n (flatE (edgesK s k ++ (ws.take j).map fun x => ((k : Int) + 1, x)))) := hown
          clear hown hx hn hints
          go_wp2_with (at_builtin; refine wpList_append_own _ rfl (.tmp 23) (.tmp 30) 80 rfl w.heap.size 82 i0 (.agg #[.int .i64 0, .int .i64 0]) 2 16 Tryz.underlying80 HI.out.1 HI.out.2.1 HI.out.2.2.1 HI.out.2.2.2 rfl (by decide) u5 n (flatE (edgesK s k ++ (ws.take j).map fun x => ((k : Int) + 1, x))) rfl (HOW.out.alloc _) ⟨wr.heap.size, 0, none⟩ 1 1 (flatE [((k : Int) + 1, x)]) rfl rfl (one_edge wr ((k : Int) + 1) x) (flatE_one _) (by unfold maxLen; omega) (by omega) (by simp; omega) ?_; intro v4 w4 hown4 hgr4 hnil4)
          have hb4 : Below w.heap.size w w4 := (HB3.out.alloc hsz _).grown hgr4 (by simp; omega) fun q hq => (HOW.out.lt q hq).1
          have hi4 : OwnI w4 w.heap.size (.slice (some ⟨g, 0, none⟩) ws.length cap) ws := World.ownsRow.kept (World.ownsRow.alloc HIN.out _) hgr4 (unlike_apart HIN.out HOW.out (by decide))
          go_roundw
          case rel => exact ⟨j + 1, by omega, by go_num, by rw [← Nat.add_assoc, HN.out, HX.out, List.map_append, ← List.append_assoc, flatE_append]; exact hown4, hi4, hb4⟩
          case measure => simp [intOf]; omega
        · have hjl' : ¬ (j : Int) < (ws.length : Int) := by omega
          obtain rfl : j = ws.length := by omega
          have HO3 : Hid (wr.ownsRow w.heap.size 82 2 u5 (edgesK s (k + 1)).length (flatE (edgesK s (k + 1)))) := by
            show World.ownsRow _ _ _ _ _ _ _
            rw [edgesK_succ, HWS.out.1, List.length_append, List.length_map]
            rw [List.take_length] at hown
            exact hown
          clear hown hints
          go_wp2_with fail
          go_roundw
          case rel => exact ⟨k + 1, by omega, by go_num, HO3.out, HB3.out⟩
          case measure => simp [intOf]; omega
    · have hlt' : ¬ (k : Int) + 1 ≤ 6 := by omega
      obtain rfl : k = 6 := by omega
      have HWY : Hid (Calls Tryz.prog 36 #[u5] wr fun e w' => e = .returned (.agg (cells49 (warTo (edgesK s 6) 6))) ∧ Below wr.heap.size wr w') := refWays_any (edgesK s 6) u5 wr (isEdges_own HOWN.out rfl) (edgesK_deals HW.out) (by have := edgesK_len HW.out 6; omega)
      obtain ⟨S, hS⟩ : ∃ S, warTo (edgesK s 6) 6 = S := ⟨_, rfl⟩
      rw [hS] at HWY HRG
      clear hS
      go_wp2_with fail
      refine HWY.out.mono ?_
      rintro e w2 ⟨rfl, hb2⟩
      have HB2 : Hid (Below w.heap.size w w2) := HB.out.trans (hb2.mono HB.out.size)
      have HZ : Hid ((w2.alloc (.cells (cells49 fun _ _ => false) 83)).heap[w2.heap.size]? = some (.cells (cells49 fun _ _ => false) 83 (0, 0))) := matT_box _ w2 _
      clear hb2 HWY HB HOWN
      go_upto_region 11 with (refine wpList_store_row rfl 83 (.tmp 9) (.tmp 33) rfl w2.heap.size (cells49 S) rfl rfl 83 (cells49 fun _ _ => false) HZ.out (mat40_info _) (by rw [cells49_size, cells49_size]) (cells49_one _) ?_)
      refine mat_split w2 _ _ rfl ?_
      intro W hM hbW
      obtain ⟨tn, rfl⟩ : ∃ n : Nat, t = n := ⟨t.toNat, by omega⟩
      have c0 := hM.cell (i := tn) (k := tn) (by omega) (by omega)
      have HBW : Hid (Below w.heap.size w W) := HB2.out.trans (hbW.mono HB2.out.size)
      have htn : (tn : Int) < 7 := by omega
      clear hM hbW HZ
      go_wp2_with fail
      go_ret
      exact ⟨by rw [HRG.out]; rfl, HBW.out⟩
end Go.Proofs.YtjaeaanpbdmfgaeGreatDoor

namespace Go.Proofs.YtjaeaanpbdmfgaeGreatDoor

theorem Good.tabs {r : Runr} (h : Good r) (hp : pot r ≤ 47) : r.tab.1.length ≤ 100 ∧ r.tab.2.length ≤ 100 ∧ r.told.length ≤ 47 ∧ r.vict.length ≤ 6 := by
  have h1 := h.size
  have h2 := h.vict
  unfold pot at hp
  exact ⟨by omega, by omega, by omega, by omega⟩
theorem abort0_pot {r : Runr} {t : Int} (h1 : 1 ≤ t) (h6 : t ≤ 6) (ho : r.out t = false) : pot (abort0 r t) ≤ pot r := by
  have hc : (cnt6 fun d => !setF r.out t true d) + 1 = cnt6 fun d => !r.out d := by
    rw [← cnt_drop (f := fun d => !r.out d) h1 h6 (by simp [ho])]
    congr 2
    funext d
    unfold setF
    split <;> rfl
  have h2 : sum6 (setF r.behind t []) ≤ sum6 r.behind := sum_mono fun d => by
    unfold setF
    split
    · simp
    · exact Nat.le_refl _
  have h3 := cnt_false (f := r.waits) (d := t)
  unfold pot abort0
  dsimp only
  rw [List.length_append, List.length_singleton]
  omega
theorem abort0_sum (r : Runr) (t : Int) : sum6 (abort0 r t).behind ≤ sum6 r.behind := sum_mono fun d => by
  show (setF r.behind t [] d).length ≤ _
  unfold setF
  split
  · simp
  · exact Nat.le_refl _
end Go.Proofs.YtjaeaanpbdmfgaeGreatDoor
