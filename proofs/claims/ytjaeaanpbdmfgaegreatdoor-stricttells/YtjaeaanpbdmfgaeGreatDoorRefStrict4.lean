/-
  PROVED HERE: laneref2.Runner's method free, over a runner in memory, if 'do' does what chapter 9 says.
  Conditions: what 'do' does is a premise.
-/
import Derived.Test.YtjaeaanpbdmfgaeGreatDoorMgax
namespace Go.Proofs.YtjaeaanpbdmfgaeGreatDoor
open Go.RowKit

theorem tail_slice {w : World} {base e n : Nat} {v : Value} {l : List Op3} (h : Tail w base e 3 v n (flat l)) (hl : l.length = n) : ∃ ad c, v = .slice ad n c ∧ (0 < n → ∃ g off, ad = some ⟨g, off, none⟩ ∧ base ≤ g ∧ g < w.heap.size ∧ n ≤ c ∧ w.cell? ⟨g, off, none⟩ = some (.int .i64 (opAt l 0).1) ∧ w.cell? ⟨g, off + 1, none⟩ = some (.int .i64 (opAt l 0).2.1) ∧ w.cell? ⟨g, off + 2, none⟩ = some (.int .i64 (opAt l 0).2.2)) := by
  have h' := h
  obtain ⟨hx, ⟨hv, hd⟩ | ⟨g, off, cap, cur, hv, hbg, hg, hnc, hcs, hcell⟩⟩ := h
  · exact ⟨none, 0, by rw [hv, hd], fun hp => absurd hp (by omega)⟩
  · refine ⟨_, cap, hv, fun hp => ⟨g, off, rfl, hbg, (Array.getElem?_eq_some_iff.1 hg).1, hnc, ?_⟩⟩
    obtain ⟨f0, f1, f2⟩ := flat_at l 0 (by omega)
    exact ⟨hcell 0 _ f0, hcell 1 _ f1, hcell 2 _ f2⟩
/-- How long the list behind a deal is, as memory has it. -/
def heldLen (w : World) (R d : Nat) : Nat := match w.cell? ⟨R, 31 + d, none⟩ with | some (.slice _ n _) => n | _ => 0
theorem RunAt.heldLen {w : World} {R : Nat} {way : Int} {r : Runr} {rv : Nat → Value} (h : RunAt w R way r rv) {d : Nat} (hd : d < 7) : heldLen w R d = (r.behind (d : Int)).length := by
  obtain ⟨ad, c, hv, -⟩ := tail_slice (h.behind hd) rfl
  unfold Go.Proofs.YtjaeaanpbdmfgaeGreatDoor.heldLen
  rw [h.c31 hd, hv]
theorem take_fold {α : Type} (f : α → Op3 → α) (a : α) {L : List Op3} {k : Nat} (hk : k < L.length) : (L.take (k + 1)).foldl f a = f ((L.take k).foldl f a) (opAt L k) := by
  rw [take_snoc hk, List.foldl_append]
  rfl
set_option maxHeartbeats 16000000 in
set_option maxRecDepth 100000 in
theorem free_run {way : Int} {n : Nat} (hD : DoC way n) : FreeC way n := by
  intro R r rv t w h hg hl1 hl2 htd hp hs
  have HD : Hid (DoC way n) := hD
  have HRUN : Hid (RunAt w R way r rv) := h
  obtain ⟨i0, hi, hz0, hs0, hy0⟩ := info_parts infoOpS
  have HI : Hid (Tryz.prog.info? 43 = some i0 ∧ i0.zero = some (.agg #[.int .i64 0, .int .i64 0, .int .i64 0]) ∧ i0.size = 3 ∧ i0.bytes = 24) := ⟨hi, hz0, hs0, hy0⟩
  obtain ⟨r0, hr0⟩ : ∃ r0 : Runr, r0 = { r with tab := (freeT r.tab t).1 } := ⟨_, rfl⟩
  obtain ⟨L, hL⟩ : ∃ L, (freeT r.tab t).2 = L := ⟨_, rfl⟩
  have HTGT : Hid (freeR (doN way n) r t = L.foldl (grantR (doN way n)) r0) := by show freeR _ _ _ = _; unfold freeR; rw [hL, hr0]
  have HLD : Hid (∀ x ∈ L, 1 ≤ x.1 ∧ x.1 ≤ 6) := fun x hx => htd x (mem_free.2.2 (hL.symm ▸ hx)).1
  have hll : L.length ≤ 100 := by
    rw [← hL]
    have h1 := (grants_len (withoutL r.tab.2 t) ((withoutL r.tab.1 t, []), [])).2.2
    have h2 : (withoutL r.tab.2 t).length ≤ r.tab.2.length := List.length_filter_le _ _
    show (grants ((withoutL r.tab.1 t, []), []) (withoutL r.tab.2 t)).2.length ≤ 100
    simp only [List.length_nil] at h1
    omega
  have HGK : Hid (∀ k, Good ((L.take k).foldl (grantR (doN way n)) r0) ∧ pot ((L.take k).foldl (grantR (doN way n)) r0) ≤ 47 ∧ sum6 ((L.take k).foldl (grantR (doN way n)) r0).behind ≤ n) := fun k => by
    have h1 := grants_ok (doN_ok way n) (L.take k) r0 (hr0 ▸ hg)
    refine ⟨h1.good, ?_, Nat.le_trans (sum_mono h1.less) (by rw [hr0]; exact hs)⟩
    have h2 := h1.pots
    have h3 : pot r0 = pot r := by rw [hr0]; rfl
    omega
  have HFR : Hid (Calls Tryz.prog 30 #[.pointer (some ⟨R, 1, none⟩), .int .i64 t] w fun e w' => ∃ v', e = .returned v' ∧ ∃ rv', GrantAt w w' R way rv v' L r0 rv') := by
    refine (refFree_any 47 R 1 _ (rv 0) (rv 1) r.tab t w h.table (by omega) (by omega)).mono ?_
    rintro e w' ⟨v', rfl, hf⟩
    obtain ⟨rv', hgr⟩ := GrantAt.start h hf
    exact ⟨v', rfl, rv', by rw [hr0, ← hL]; exact hgr⟩
  have HDO := hid_of2 (doN_ok way n)
  clear hi hz0 hs0 hy0 hD h hg hl1 hl2 htd hp hs hr0 hL
  go_enter Tryz.func18, Tryz.ntmps18
  go_wp2_with fail
  refine HFR.out.mono ?_
  rintro e w1 ⟨v1, rfl, rv1, hgr1⟩
  obtain ⟨ad1, cc1, rfl, -⟩ := own_slice3 hgr1.row
  have HG1 := hid_of2 hgr1
  clear hgr1 HFR
  go_wp2_with fail
  go_loopw [5, 6, 7] (fun v5 _ _ wr => ∃ (k : Nat) (rvk : Nat → Value), k ≤ L.length ∧ v5 = .int .i64 k ∧ GrantAt w wr R way rv (.slice ad1 L.length cc1) L ((L.take k).foldl (grantR (doN way n)) r0) rvk) (fun v5 _ _ _ => L.length - (intOf v5).toNat)
  case atStart => exact ⟨0, rv1, Nat.zero_le _, rfl, HG1.out⟩
  case round =>
    obtain ⟨k, rvk, hk, rfl, hgk⟩ := hrel
    obtain ⟨WR, hWR⟩ : ∃ W : World, W = wr := ⟨_, rfl⟩
    subst hWR
    obtain ⟨rk, hrk⟩ : ∃ rk, (L.take k).foldl (grantR (doN way n)) r0 = rk := ⟨_, rfl⟩
    have HGO := HGK.out k
    rw [hrk] at hgk HGO
    have HRK : Hid ((L.take k).foldl (grantR (doN way n)) r0 = rk) := hrk
    have HGOK : Hid (Good rk ∧ pot rk ≤ 47 ∧ sum6 rk.behind ≤ n) := HGO
    have HGAT : Hid (GrantAt w WR R way rv (.slice ad1 L.length cc1) L rk rvk) := hgk
    clear hgk hrk HGO
    by_cases hlt : k < L.length
    · have hlt' : (k : Int) < (L.length : Int) := by omega
      obtain ⟨g, c2, hv2, -, hgl, -, e0, -, -⟩ := row_cells HGAT.out.row rfl hlt
      simp only [Value.slice.injEq] at hv2
      obtain ⟨rfl, -, rfl⟩ := hv2
      obtain ⟨⟨xt, xi, xm⟩, ho⟩ : ∃ o : Op3, opAt L k = o := ⟨_, rfl⟩
      have HO : Hid (opAt L k = (xt, xi, xm)) := ho
      have hxr := HLD.out _ (opAt_mem hlt)
      rw [ho] at e0 hxr
      simp only at e0 hxr
      obtain ⟨d, rfl⟩ : ∃ d : Nat, xt = d := ⟨xt.toNat, by omega⟩
      have HNX : Hid ((L.take (k + 1)).foldl (grantR (doN way n)) r0 = grantR (doN way n) rk ((d : Int), xi, xm)) := by show List.foldl _ _ _ = _; rw [take_fold _ _ hlt, HRK.out, HO.out]
      have hd1 : 1 ≤ d := by omega
      have hd6 : d ≤ 6 := by omega
      have hd0 : (0 : Int) ≤ (d : Int) := by omega
      have hdn : ¬ (d : Int) < 0 := by omega
      have hd7 : (d : Int) < 7 := by omega
      have c3' := HGAT.out.run.c3 (d := d) (by omega)
      have z3' := HGAT.out.run.thaw (3 + d)
      have hRr := HGAT.out.run.lt
      clear ho hxr
      cases hw : rk.waits (d : Int) with
      | false =>
        have HGN : Hid (grantR (doN way n) rk ((d : Int), xi, xm) = rk) := grantR_no hw
        rw [hw] at c3'
        clear hw
        go_wp2_with fail
        go_roundw
        case rel => exact ⟨k + 1, rvk, by omega, by go_num, by rw [HNX.out, HGN.out]; exact HGAT.out⟩
        case measure => simp [intOf]; omega
      | true =>
        have HGY : Hid (grantR (doN way n) rk ((d : Int), xi, xm) = drainN (doN way n) (d : Int) ((gotR rk (d : Int)).behind (d : Int)).length (gotR rk (d : Int))) := grantR_yes hw
        have HGT : Hid (Good (gotR rk (d : Int)) ∧ pot (gotR rk (d : Int)) ≤ 47 ∧ sum6 (gotR rk (d : Int)).behind ≤ n) := by
          obtain ⟨a1, a2⟩ := got_ok HGOK.out.1 hw
          exact ⟨a1, Nat.le_trans a2 HGOK.out.2.1, HGOK.out.2.2⟩
        rw [hw] at c3'
        clear hw
        go_upto_region 7 with (fail)
        obtain ⟨k1, t1⟩ := HGAT.out.run.setWaits (d := d) (by omega) false
        obtain ⟨W1, hW1⟩ : ∃ W1, W1 = WR.setCell ⟨R, 3 + d, none⟩ (.bool false) := ⟨_, rfl⟩
        rw [← hW1] at k1 t1 ⊢
        obtain ⟨rva, hga⟩ := HGAT.out.step ⟨rvk, k1, t1, fun _ hk => .inl hk⟩
        obtain ⟨ra, hra⟩ : ∃ ra : Runr, ra = { rk with waits := setF rk.waits (d : Int) false } := ⟨_, rfl⟩
        rw [← hra] at hga
        have HGA : Hid (GrantAt w W1 R way rv (.slice (some ⟨g, 0, none⟩) L.length cc1) L ra rva) := hga
        have hR1 := hga.run.lt
        obtain ⟨ad5, c5, e5, -⟩ := own_slice3 hga.run.told
        obtain ⟨n5, hn5⟩ : ∃ n, ra.told.length = n := ⟨_, rfl⟩
        rw [hn5] at e5
        have hn47 : n5 ≤ 47 := by
          rw [← hn5, hra]
          exact (HGOK.out.1.tabs HGOK.out.2.1).2.2.1
        have c45 := hga.run.c45
        rw [e5] at c45
        obtain ⟨o0, o1, o2⟩ := hga.run.c10 (d := d) (by omega)
        obtain ⟨⟨ot, oa, oi⟩, hop⟩ : ∃ o : Op3, ra.op (d : Int) = o := ⟨_, rfl⟩
        rw [hop] at o0 o1 o2
        simp only at o0 o1 o2
        have HGE : Hid ({ ra with told := ra.told ++ [(ot, oa, oi)] } = gotR rk (d : Int)) := by
          show _ = _
          rw [← hop, hra]
          rfl
        have HV : Hid (W1.ownsRow (R + 1) 43 3 (.slice ad5 n5 c5) n5 (flat ra.told)) := by show World.ownsRow _ _ _ _ _ _ _; have := hga.run.told; rw [e5, hn5] at this; exact this
        have HPT : Hid (∀ v2 w2 (ob : Obj), w2.ownsRow (R + 1) 43 3 v2 (n5 + 1) (flat ra.told ++ flat [(ot, oa, oi)]) → (W1.drew.alloc ob).grownBy w2 (Value.slice ad5 n5 c5).ownBlock → (∀ g, v2.ownBlock = some g → (Value.slice ad5 n5 c5).ownBlock = some g ∨ (W1.drew.alloc ob).heap.size ≤ g) → w2.cell? ⟨R, 45, none⟩ = some (.slice ad5 n5 c5) ∧ w2.frozen? ⟨R, 45, none⟩ = false ∧ RunStep W1 (w2.setCell ⟨R, 45, none⟩ v2) R way rva { ra with told := ra.told ++ [(ot, oa, oi)] }) := fun v2 w2 ob h1 h2 h3 => HGA.out.run.tellD e5 hn5 h1 h2 h3
        have hc45 : ∀ ob : Obj, (W1.alloc ob).cell? ⟨R, 45, none⟩ = some (.slice ad5 n5 c5) := fun ob => by rw [World.cell?_alloc_lt _ _ ⟨R, 45, none⟩ hR1]; exact c45
        have hR11 : R + 1 ≤ W1.heap.size := by omega
        clear hW1 t1 k1 hga hra e5 hn5 hop c3' z3' hRr e0 hgl HGAT
        go_region_law (refine step_append_apart rfl (.tmp 40) (.tmp 47) 22 rfl (R + 1) 43 i0 (.agg #[.int .i64 0, .int .i64 0, .int .i64 0]) 3 24 Tryz.underlying22 HI.out.1 HI.out.2.1 HI.out.2.2.1 HI.out.2.2.2 rfl (by decide) (.slice ad5 n5 c5) n5 (flat ra.told) (by simp [Act.eval]) (HV.out.alloc _) ⟨W1.heap.size, 0, none⟩ 1 1 (flat [(ot, oa, oi)]) (by simp [Act.eval]) rfl (lock_new W1 (ot, oa, oi) _) (flat_one _) (by unfold maxLen; omega) (by omega) (by simp; omega) ?_; intro v2 w2 hown2 hgr2 hap2; obtain ⟨g0, g1, g2⟩ := HPT.out v2 w2 _ hown2 hgr2 hap2; clear hap2 hgr2; obtain ⟨ad6, c6, rfl, -⟩ := own_slice3 hown2; have HK2 := hid_of2 g2; clear g2 hown2)
        all_goals
          obtain ⟨rvb, hgb⟩ := HGA.out.step HK2.out
          rw [HGE.out] at hgb
          have HGB := hid_of2 hgb
          obtain ⟨W2, hW2⟩ : ∃ W2, W2 = w2.setCell ⟨R, 45, none⟩ (.slice ad6 (n5 + 1) c6) := ⟨_, rfl⟩
          rw [← hW2] at HGB ⊢
          obtain ⟨TG, hTG⟩ : ∃ TG, grantR (doN way n) rk ((d : Int), xi, xm) = TG := ⟨_, rfl⟩
          have HTG : Hid (drainN (doN way n) (d : Int) ((gotR rk (d : Int)).behind (d : Int)).length (gotR rk (d : Int)) = TG) := by show drainN _ _ _ _ = _; rw [← hTG, HGY.out]
          have HNX2 : Hid ((L.take (k + 1)).foldl (grantR (doN way n)) r0 = TG) := by show List.foldl _ _ _ = _; rw [HNX.out, hTG]
          clear hW2 hgb g0 g1 HK2 HPT hc45 c45 o0 o1 o2 HV hTG hR1 hR11
          go_wp2_with fail
          go_loopw [7] (fun _ wr => ∃ (rm : Runr) (rvm : Nat → Value), GrantAt w wr R way rv (.slice (some ⟨g, 0, none⟩) L.length cc1) L rm rvm ∧ Good rm ∧ pot rm ≤ 47 ∧ sum6 rm.behind ≤ n ∧ drainN (doN way n) (d : Int) (rm.behind (d : Int)).length rm = TG) (fun _ wr => heldLen wr R d)
          case atStart => exact ⟨_, rvb, HGB.out, HGT.out.1, HGT.out.2.1, HGT.out.2.2, HTG.out⟩
          case round =>
            obtain ⟨rm, rvm, hgm, hgood, hpot, hsum, hdr⟩ := hrel
            have HGM := hid_of2 hgm
            have HOK := hid_of2 (And.intro hgood (And.intro hpot hsum))
            have HDR := hid_of2 hdr
            obtain ⟨ad7, c7, hv7, htl⟩ := tail_slice (hgm.run.behind (d := d) (by omega)) rfl
            have c31 := hgm.run.c31 (d := d) (by omega)
            rw [hv7] at c31
            have z31 := hgm.run.thaw (31 + d)
            have c3' := hgm.run.c3 (d := d) (by omega)
            have hRr := hgm.run.lt
            clear hgm hgood hpot hsum hdr
            cases hb : rm.behind (d : Int) with
            | nil =>
              have HTE : Hid (rm = TG) := by show _ = _; rw [← HDR.out, drain_stop (.inr hb)]
              rw [hb] at c31
              simp only [List.length_nil] at c31
              clear hb htl hv7
              go_wp2_with fail
              go_roundw
              case rel => exact ⟨k + 1, rvm, by omega, by go_num, by rw [HNX2.out, ← HTE.out]; exact HGM.out⟩
              case measure => simp [intOf]; omega
            | cons o q =>
              cases hw : rm.waits (d : Int) with
              | true =>
                have HTE : Hid (rm = TG) := by show _ = _; rw [← HDR.out, drain_stop (.inl hw)]
                rw [hb] at c31
                rw [hw] at c3'
                simp only [List.length_cons] at c31
                clear hb htl hv7 hw
                go_wp2_with fail
                go_roundw
                case rel => exact ⟨k + 1, rvm, by omega, by go_num, by rw [HNX2.out, ← HTE.out]; exact HGM.out⟩
                case measure => simp [intOf]; omega
              | false =>
                obtain ⟨p1, p2, p3, p4, p5, p6⟩ := pop_ok HOK.out.1 (show (1 : Int) ≤ (d : Int) by omega) (show (d : Int) ≤ 6 by omega) hb
                have HPOP := hid_of2 (And.intro p1 (And.intro p2 (And.intro p3 (And.intro p4 (And.intro p5 p6)))))
                have HNXT := hid_of2 (drain_next HDO.out (show (1 : Int) ≤ (d : Int) by omega) (show (d : Int) ≤ 6 by omega) HOK.out.1 hw hb)
                have HBE : Hid (rm.behind (d : Int) = o :: q) := hb
                have HWF : Hid (rm.waits (d : Int) = false) := hw
                obtain ⟨g7, off7, rfl, hg7b, hg7, hcap7, e0, e1, e2⟩ := htl (by rw [hb]; simp)
                rw [hb] at c31 hcap7 e0 e1 e2
                rw [hw] at c3'
                obtain ⟨ot2, oa2, oi2⟩ := o
                simp only [List.length_cons, opAt, List.getD, List.getElem?_cons_zero, Option.getD_some] at c31 hcap7 e0 e1 e2
                have HV7 : Hid (rvm (d + 4) = .slice (some ⟨g7, off7, none⟩) (q.length + 1) c7) := by show _ = _; rw [hv7, hb]; rfl
                have hql : q.length + 1 ≤ 47 := by
                  have h1 := sum_le (f := rm.behind) (show (1 : Int) ≤ (d : Int) by omega) (show (d : Int) ≤ 6 by omega)
                  have h2 := HOK.out.2.1
                  rw [hb] at h1
                  unfold pot at h2
                  simp only [List.length_cons] at h1
                  omega
                clear hb htl hv7 hw p1 p2 p3 p4 p5 p6
                go_upto_region 10 with (fail)
                obtain ⟨W9, hW9⟩ : ∃ W9, W9 = wr.alloc (.cells #[.int .i64 ot2, .int .i64 oa2, .int .i64 oi2] 43) := ⟨_, rfl⟩
                rw [← hW9]
                have hb9 : Below wr.heap.size wr W9 := by rw [hW9]; exact (Below.refl _ wr).alloc (Nat.le_refl _) _
                have b0 : W9.cell? ⟨wr.heap.size, 0, none⟩ = some (.int .i64 ot2) := by rw [hW9]; simp
                have b1 : W9.cell? ⟨wr.heap.size, 1, none⟩ = some (.int .i64 oa2) := by rw [hW9]; simp
                have b2 : W9.cell? ⟨wr.heap.size, 2, none⟩ = some (.int .i64 oi2) := by rw [hW9]; simp
                have HG9 := hid_of2 (HGM.out.below hb9)
                have hP9 : wr.heap.size < W9.heap.size := World.block_lt_of_cell? W9 _ b0
                obtain ⟨P, hP⟩ : ∃ P, P = wr.heap.size := ⟨_, rfl⟩
                rw [← hP] at b0 b1 b2 hP9 ⊢
                have HFP : Hid (∀ j, footR R rvm j → j < P) := fun j hj => by rw [hP]; exact (HGM.out.run.foot_lt hj).2
                have y31 := HG9.out.run.c31 (d := d) (by omega)
                rw [HV7.out] at y31
                have x31 := HG9.out.run.thaw (31 + d)
                have hq1 : (1 : Int) ≤ ((q.length + 1 : Nat) : Int) := by omega
                have hq2 : (1 : Int) ≤ (c7 : Int) := by omega
                have hq3 : ((q.length + 1 : Nat) : Int) ≤ (c7 : Int) := by omega
                clear hW9 hb9 c31 z31 e0 e1 e2 c3' hRr hg7 hg7b hP
                go_region
                obtain ⟨sv, hsv⟩ : ∃ sv, sv = Value.slice (if c7 = 1 then some ⟨g7, off7, none⟩ else some ⟨g7, off7 + 3, none⟩) q.length (c7 - 1) := ⟨_, rfl⟩
                have hsvo : sv.ownBlock = some g7 := by rw [hsv]; split <;> rfl
                have htl : Tail W9 (R + 1) 43 3 sv q.length (flat q) := by
                  have h1 := HG9.out.run.behind (d := d) (by omega)
                  rw [HV7.out, HBE.out] at h1
                  have h2 : Tail W9 (R + 1) 43 3 (.slice (some ⟨g7, off7, none⟩) (q.length + 1) c7) (q.length + 1) (flat ((ot2, oa2, oi2) :: q)) := h1
                  have hd3 : (flat ((ot2, oa2, oi2) :: q)).drop 3 = flat q := rfl
                  rw [← hd3, hsv]
                  by_cases h7 : c7 = 1
                  · rw [if_pos h7]; exact h2.pop _ (.inr ⟨h7, rfl⟩)
                  · rw [if_neg h7]; exact h2.pop _ (.inl rfl)
                have hst := HG9.out.run.setBehind (w1 := W9) (v := sv) (q := q) (d := d) (by omega) (Turns.refl _ _) htl (fun g hg => .inl (by rw [HV7.out]; rw [hsvo] at hg; exact hg))
                rw [← hsv]
                obtain ⟨X, hX⟩ : ∃ X, X = W9.setCell ⟨R, 31 + d, none⟩ sv := ⟨_, rfl⟩
                rw [← hX] at hst ⊢
                have htx : Turns (footR R rvm) W9 X := by obtain ⟨_, _, h1, _⟩ := hst; exact h1
                have a0 := (htx.cell (p := ⟨P, 0, none⟩) hP9 (fun hj => absurd (HFP.out P hj) (by omega))).trans b0
                have a1 := (htx.cell (p := ⟨P, 1, none⟩) hP9 (fun hj => absurd (HFP.out P hj) (by omega))).trans b1
                have a2 := (htx.cell (p := ⟨P, 2, none⟩) hP9 (fun hj => absurd (HFP.out P hj) (by omega))).trans b2
                obtain ⟨rvp, hgp⟩ := HG9.out.step hst
                have HGP : Hid (GrantAt w X.drew R way rv (.slice (some ⟨g, 0, none⟩) L.length cc1) L (popR rm (d : Int) q) rvp) := hgp.below (Below.refl _ X).drew
                obtain ⟨Y, hY⟩ : ∃ Y, Y = X.drew := ⟨_, rfl⟩
                have d0 : Y.cell? ⟨P, 0, none⟩ = some (.int .i64 ot2) := by rw [hY]; exact a0
                have d1 : Y.cell? ⟨P, 1, none⟩ = some (.int .i64 oa2) := by rw [hY]; exact a1
                have d2 : Y.cell? ⟨P, 2, none⟩ = some (.int .i64 oi2) := by rw [hY]; exact a2
                rw [← hY] at HGP ⊢
                have HLEN : Hid (heldLen wr R d = q.length + 1) := by show _ = _; rw [HGM.out.run.heldLen (by omega), HBE.out]; rfl
                clear hsv hsvo htl hst hX htx a0 a1 a2 hgp hY b0 b1 b2 y31 x31 hP9 HFP HG9 HGM
                go_wp2_with fail
                have hpot46 : pot (popR rm (d : Int) q) ≤ 46 := by have := HPOP.out.2.1; have := HOK.out.2.1; omega
                have hsumn : sum6 (popR rm (d : Int) q).behind < n := by have := HPOP.out.2.2.1; have := HOK.out.2.2; omega
                have hout : (popR rm (d : Int) q).out ((ot2, oa2, oi2) : Op3).1 = false := by rw [HPOP.out.2.2.2.1]; exact HPOP.out.2.2.2.2.2
                have hwts : (popR rm (d : Int) q).waits ((ot2, oa2, oi2) : Op3).1 = false := by rw [HPOP.out.2.2.2.1]; exact HWF.out
                refine (HD.out R (popR rm (d : Int) q) rvp (ot2, oa2, oi2) Y HGP.out.run HPOP.out.1 hpot46 hsumn hout hwts HPOP.out.2.2.2.2.1).mono ?_
                rintro e Z ⟨rfl, hstz⟩
                have hsd := HDO.out (popR rm (d : Int) q) (ot2, oa2, oi2) HPOP.out.1 hout hwts HPOP.out.2.2.2.2.1
                obtain ⟨rvq, hgq⟩ := HGP.out.step hstz
                have HGQ := hid_of2 hgq
                have HSD := hid_of2 hsd
                clear hpot46 hsumn hout hwts hstz hsd hgq d0 d1 d2
                go_wp2_with fail
                go_roundw
                case rel => exact ⟨_, rvq, HGQ.out, HSD.out.good, by have := HSD.out.pots; have := HPOP.out.2.1; have := HOK.out.2.1; omega, by have := sum_mono HSD.out.less; have := HPOP.out.2.2.1; have := HOK.out.2.2; omega, HNXT.out.symm.trans HDR.out⟩
                case measure =>
                  rw [HLEN.out, HGQ.out.run.heldLen (by omega)]
                  have h1 := HSD.out.less (d : Int)
                  have h2 : ((popR rm (d : Int) q).behind (d : Int)).length = q.length := by show (setF rm.behind (d : Int) q (d : Int)).length = _; rw [setF_same]
                  omega
    · have hlt' : ¬ (k : Int) < (L.length : Int) := by omega
      obtain rfl : k = L.length := by omega
      have HEND : Hid (freeR (doN way n) r t = rk) := by show freeR _ _ _ = _; rw [HTGT.out, ← HRK.out, List.take_length]
      go_wp2_with fail
      go_end0
      exact ⟨rfl, by rw [HEND.out]; exact HGAT.out.done⟩
end Go.Proofs.YtjaeaanpbdmfgaeGreatDoor
