/-
  PROVED HERE: lanelaw3.StockPlays returns true, whatever the number and the steps, if package stock answers as it is asked; old memory stays as it was.
  Conditions: package stock's contract (StockW); the variable errors.errorType lies as it should (EtAt).
-/
import Derived.Test.YtaodbljpihcjnaaDoorSkPlayMem
import Derived.Test.YtaodbljpihcjnaaDoorTold
import Derived.Test.YtaodbljpihcjnaaDoorRefGraph
import Derived.Deep.Cut
import Derived.Deep.CutRange
import Derived.Deep.CutBlock
import Derived.BigQuiet
import Derived.Deep.QuietTactic
namespace Go.Proofs.YtaodbljpihcjnaaDoor
open Go.RowKit

theorem err_k (e : Int) (w : World) (hg : EtAt w) : Calls Tryd.prog 5 #[errV e, .int .i64 e] w fun r w' => r = .returned (.bool true) ∧ Below w.heap.size w w' := by
  by_cases h : e = 0
  · subst h
    exact (error_nil 0 w).mono fun _ _ ⟨h1, h2⟩ => ⟨by rw [h1]; rfl, by rw [h2]; exact Below.refl _ _⟩
  · have : errV e = .iface 41 (.int .i64 e) := by unfold errV; rw [if_neg h]
    rw [this]
    exact (error_hit e e w hg).mono fun _ _ ⟨h1, h2⟩ => ⟨by rw [h1]; simp, h2⟩
set_option maxHeartbeats 32000000 in
set_option maxRecDepth 100000 in
theorem skplay_any {Rep : World → Nat → Stk → (Nat → Prop) → Prop} (hR : StockW Rep) (n : Int) (rs : List (List Int)) (v : Value) (w : World) (hI : IsRows w v rs) (hg : EtAt w) :
    Calls Tryd.prog 3 #[.int .i64 n, v] w fun e w' => e = .returned (.bool true) ∧ Below w.heap.size w w' := by
  have HNW := hid_k (sk_new hR n w)
  have HSB : Hid (∀ W W1 p s, SkAt Rep w W p s → Below W.heap.size W W1 → SkAt Rep w W1 p s) := fun W W1 p s h hb => SkAt.below hR h hb
  have HPM : Hid (∀ W p s, SkAt Rep w W p s → s.add = (fun _ => 0) ∧ s.take = (fun _ => 0) → PlAt Rep w ((W.alloc (.cells #[.int .i64 0, .int .i64 0, .int .i64 0, .int .i64 0, .int .i64 0, .int .i64 0, .int .i64 0] 29)).alloc (.cells #[.int .i64 0, .int .i64 0, .int .i64 0, .int .i64 0, .int .i64 0, .int .i64 0, .int .i64 0] 29)) p s s W.heap.size (W.heap.size + 1)) := fun W p s h hz => pl_made hR h hz
  have HAS : Hid (∀ W p s sa A T t d, PlAt Rep w W p s sa A T → Calls Tryd.prog 7 #[ptK p, .int .i64 t, .int .i64 d] W fun e w' => e = .returned (.tuple #[.bool (askB s t d), errV (askE t d)]) ∧ PlAt Rep w w' p (askS s t d) sa A T) := fun W p s sa A T t d h => pl_ask hR h t d
  have HEN : Hid (∀ W p s sa A T t c, PlAt Rep w W p s sa A T → Calls Tryd.prog 8 #[ptK p, .int .i64 t, .bool c] W fun e w' => e = .returned (.tuple #[.int .i64 (endV s t c), errV (endE s t)]) ∧ PlAt Rep w w' p (endS s t c) sa A T) := fun W p s sa A T t c h => pl_end hR h t c
  have HNO : Hid (∀ W p s sa A T, PlAt Rep w W p s sa A T → Calls Tryd.prog 10 #[ptK p] W fun e w' => e = .returned (.int .i64 s.now) ∧ Below W.heap.size W w') := fun W p s sa A T h => pl_now hR h
  have HRA : Hid (∀ W p s sa A T, PlAt Rep w W p s sa A T → Calls Tryd.prog 9 #[ptK p] W fun e w' => e = .returned (.tuple #[.int .i64 (lowK s), .int .i64 (highK s)]) ∧ Below W.heap.size W w') := fun W p s sa A T h => pl_range hR h
  have HBE : Hid (∀ W W1 p s sa A T, PlAt Rep w W p s sa A T → Below W.heap.size W W1 → PlAt Rep w W1 p s sa A T) := fun W W1 p s sa A T h hb => PlAt.below hR h hb
  have HST : Hid (∀ W p s sa A T t x, PlAt Rep w W p s sa A T → 1 ≤ t → t ≤ 6 → PlAt Rep w (W.setCell ⟨T, Int.toNat t, none⟩ (.int .i64 x)) p s { sa with take := putK sa.take t x } A T) := fun W p s sa A T t x h h1 h6 => PlAt.setT hR h h1 h6 x
  have HSA : Hid (∀ W p s sa A T t x, PlAt Rep w W p s sa A T → 1 ≤ t → t ≤ 6 → PlAt Rep w (W.setCell ⟨A, Int.toNat t, none⟩ (.int .i64 x)) p s { sa with add := putK sa.add t x } A T) := fun W p s sa A T t x h h1 h6 => PlAt.setA hR h h1 h6 x
  have HER : Hid (∀ W e, Below w.heap.size w W → Calls Tryd.prog 5 #[errV e, .int .i64 e] W fun r w' => r = .returned (.bool true) ∧ Below W.heap.size W w') := fun W e hW => err_k e W (hg.below hW hg.lt)
  have HE0 : Hid (∀ W, Below w.heap.size w W → Calls Tryd.prog 5 #[.nilIface, .int .i64 0] W fun r w' => r = .returned (.bool true) ∧ Below W.heap.size W w') := fun W hW => HER.out W 0 hW
  have HE1 : Hid (∀ W, Below w.heap.size w W → Calls Tryd.prog 5 #[.iface 41 (.int .i64 1), .int .i64 1] W fun r w' => r = .returned (.bool true) ∧ Below W.heap.size W w') := fun W hW => HER.out W 1 hW
  obtain ⟨ad, b, off, cap, rfl, ha, hbB, hc⟩ := hI
  have HE : Hid (∀ W, Below w.heap.size w W → ∀ i, i < rs.length → ad = some ⟨b, off, none⟩ ∧ b < W.heap.size ∧ ∃ ad2 cap2, W.cell? ⟨b, off + i, none⟩ = some (.slice ad2 (rs.getD i []).length cap2) ∧ IsInts W (.slice ad2 (rs.getD i []).length cap2) (rs.getD i [])) := fun W hW i hi => by
    have hb : b < w.heap.size := by
      rcases hbB with h | h
      · exact h
      · subst h; simp at hi
    obtain ⟨u, h1, h2⟩ := hc i hi
    have h2' := h2
    obtain ⟨ad2, _, _, cap2, rfl, _⟩ := h2'
    exact ⟨ha (by omega), Nat.lt_of_lt_of_le hb hW.size, ad2, cap2, (hW.cell (p := ⟨b, off + i, none⟩) hb).trans h1, h2.below hW (Nat.le_refl _)⟩
  clear hR ha hbB hc hg
  unfold ptK at HNW HAS HEN HNO HRA
  obtain ⟨len, hlen⟩ : ∃ m, rs.length = m := ⟨_, rfl⟩
  rw [hlen] at HE
  rw [hlen]
  clear hlen
  go_enter Tryd.func3, Tryd.ntmps3
  by_cases hbad : n < 0 ∨ 1000000 < n
  · have hb2 : n < 0 ∨ (¬ n < 0 ∧ 1000000 < n) := by omega
    rcases hb2 with h0 | ⟨h0, h1⟩
    all_goals
      go_wp2_with fail
      refine HNW.out.mono ?_
      rintro e w1 (⟨-, hb1, po, rfl⟩ | ⟨⟨hn0, hn1⟩, -⟩)
      · have HB1 := hid_k hb1
        clear hb1
        go_wp2_with fail
        refine (HE1.out w1 HB1.out).mono ?_
        rintro e w2 ⟨rfl, hb2⟩
        go_wp2_with fail
        go_ret
        exact ⟨rfl, HB1.out.trans (hb2.mono HB1.out.size)⟩
      · omega
  have h0 : ¬ n < 0 := by omega
  have h1 : ¬ (1000000 : Int) < n := by omega
  clear hbad
  go_wp2_with fail
  refine HNW.out.mono ?_
  rintro e w1 (⟨hbad, -⟩ | ⟨-, p, rfl, hs1⟩)
  · omega
  have HS1 := hid_k hs1
  clear hs1
  go_wp2_with fail
  refine (HE0.out w1 HS1.out.2.1).mono ?_
  rintro e w2 ⟨rfl, hb2⟩
  have HS2 : Hid (SkAt Rep w w2 p (stk0 n)) := HSB.out w1 w2 p _ HS1.out hb2
  clear hb2 HS1
  go_upto_region 10 with (fail)
  have HPL := hid_k (HPM.out w2 p (stk0 n) HS2.out ⟨rfl, rfl⟩)
  obtain ⟨A, hA⟩ : ∃ A, A = w2.heap.size := ⟨_, rfl⟩
  obtain ⟨T, hT⟩ : ∃ T, T = w2.heap.size + 1 := ⟨_, rfl⟩
  obtain ⟨w3, hw3⟩ : ∃ W, W = (w2.alloc (.cells #[.int .i64 0, .int .i64 0, .int .i64 0, .int .i64 0, .int .i64 0, .int .i64 0, .int .i64 0] 29)).alloc (.cells #[.int .i64 0, .int .i64 0, .int .i64 0, .int .i64 0, .int .i64 0, .int .i64 0, .int .i64 0] 29) := ⟨_, rfl⟩
  rw [← hw3, ← hT] at HPL
  rw [← hw3, ← hT]
  rw [← hA] at HPL ⊢
  clear hA hT hw3 HS2 HNW
  have HNW0 : Hid ((stk0 n).now = n) := rfl
  go_wp2_with fail
  go_loopw [9, 12] (fun v9 v12 wr => ∃ (i : Nat) (s : Stk), i ≤ 80 ∧ v12 = .int .i64 i ∧ v9 = .int .i64 s.now ∧ PlAt Rep w wr p s s A T) (fun _ v12 _ => 81 - (intOf v12).toNat)
  case atStart => exact ⟨0, stk0 n, by omega, rfl, rfl, HPL.out⟩
  case round =>
    obtain ⟨i, s, hi80, rfl, rfl, hs⟩ := hrel
    have HS := hid_k hs
    clear hs HPL
    by_cases hgo : i < len ∧ i < 80
    · have g1 : (i : Int) < (len : Int) := by omega
      have g2 : (i : Int) < 80 := by omega
      obtain ⟨r, hr⟩ : ∃ r, rs.getD i [] = r := ⟨_, rfl⟩
      have HRW : Hid (∀ W, Below w.heap.size w W → ad = some ⟨b, off, none⟩ ∧ b < W.heap.size ∧ ∃ ad2 cap2, W.cell? ⟨b, off + i, none⟩ = some (.slice ad2 r.length cap2) ∧ IsInts W (.slice ad2 r.length cap2) r) := fun W hW => by have := HE.out W hW i hgo.1; rw [hr] at this; exact this
      obtain ⟨W0, hW0⟩ : ∃ W : World, W = wr := ⟨_, rfl⟩
      subst hW0
      obtain ⟨rfl, -, -⟩ := HRW.out W0 HS.out.old
      clear hr hgo
      go_upto_region 14 with (fail)
      obtain ⟨W1, hW1⟩ : ∃ W, W = W0.alloc (.cells #[.int .i64 0, .int .i64 0, .int .i64 0] 30) := ⟨_, rfl⟩
      rw [← hW1]
      obtain ⟨V, hV⟩ : ∃ V, V = W0.heap.size := ⟨_, rfl⟩
      rw [← hV]
      have HV0 : Hid (W0.heap.size ≤ V) := by show _ ≤ _; omega
      have HRC : Hid (W1.heap[V]? = some (.cells (rowC r 0) 30 (0, 0))) := by show _ = _; rw [hW1, hV, rowC_zero]; exact heap_alloc_new W0 _
      have HBL : Hid (Below W0.heap.size W0 W1) := by show Below _ _ _; rw [hW1]; exact (Below.refl _ W0).alloc (Nat.le_refl _) _
      clear hW1 hV
      go_upto_block 2 with (fail)
      go_cut [14] from 50 to 279 (fun _ W => W.heap[V]? = some (.cells #[.int .i64 (rowV r 0), .int .i64 (rowV r 1), .int .i64 (rowV r 2)] 30 (0, 0)) ∧ Below W0.heap.size W0 W)
      case first =>
        go_wp2_with fail
        go_loopw [14] (fun v14 wr => ∃ j : Nat, j ≤ r.length ∧ j ≤ 3 ∧ v14 = .int .i64 j ∧ wr.heap[V]? = some (.cells (rowC r j) 30 (0, 0)) ∧ Below W0.heap.size W0 wr) (fun v14 _ => 4 - (intOf v14).toNat)
        case atStart => exact ⟨0, Nat.zero_le _, by omega, rfl, HRC.out, HBL.out⟩
        case round =>
          obtain ⟨j, hjr, hj3, rfl, hrc, hbl⟩ := hrel
          clear HRC HBL
          have HRC := hid_k hrc
          have HBL := hid_k hbl
          have HBW1 : Hid (Below w.heap.size w wr) := HS.out.old.trans (hbl.mono HS.out.old.size)
          clear hrc hbl
          obtain ⟨-, hbw, ad2, cap2, hrow, hri⟩ := HRW.out wr HBW1.out
          have hAw : V < wr.heap.size := (Array.getElem?_eq_some_iff.1 HRC.out).1
          by_cases hjj : j < r.length ∧ j < 3
          · have j1 : (j : Int) < (r.length : Int) := by omega
            have j2 : (j : Int) < 3 := by omega
            obtain ⟨ad3, b3, off3, cap3, hv3, ha3, -, hb3, hc3⟩ := hri
            injection hv3 with e1 e2 e3
            have hcell := hc3 j hjj.1
            have e4 : ad2 = some ⟨b3, off3, none⟩ := by rw [e1]; exact ha3 (by omega)
            have hb3' : b3 < wr.heap.size := World.block_lt_of_cell? wr _ hcell
            subst e4
            obtain ⟨x, hx⟩ : ∃ x, r.getD j 0 = x := ⟨_, rfl⟩
            have HRS := hid_k (rowC_succ r hjj.2)
            rw [hx] at hcell HRS
            have hsz : (rowC r j).size = 3 := rfl
            obtain ⟨old, hold⟩ : ∃ o, wr.cell? ⟨V, j, none⟩ = some o := by
              rw [cell_of_row wr V _ _ _ _ HRC.out]
              exact ⟨_, Array.getElem?_eq_getElem (by rw [hsz]; omega)⟩
            have hfz : wr.frozen? ⟨V, j, none⟩ = false := by simp [World.frozen?, HRC.out]
            obtain ⟨L, hL⟩ : ∃ L, r.length = L := ⟨_, rfl⟩
            rw [hL] at hrow j1
            have HLL := hid_k hL
            have HJJ := hid_k hjj
            clear hx e1 e2 e3 ha3 hb3 hc3 hsz hL hjj hjr
            go_wp2_with fail
            go_roundw
            case rel => exact ⟨j + 1, by have := HJJ.out; omega, by have := HJJ.out; omega, by go_num, by rw [block_setP HRC.out, HRS.out], HBL.out.setCell (p := ⟨V, j, none⟩) HV0.out _⟩
            case measure => simp [intOf]; omega
          · have HEND := hid_k (rowC_end r hjr hj3 hjj)
            rw [HEND.out] at HRC
            have hbr : ¬ (j : Int) < (r.length : Int) ∨ ((j : Int) < (r.length : Int) ∧ ¬ (j : Int) < 3) := by omega
            obtain ⟨L, hL⟩ : ∃ L, r.length = L := ⟨_, rfl⟩
            rw [hL] at hrow hbr
            clear hri hjr hj3 hjj hL
            rcases hbr with hbr | ⟨hbr, jn⟩
            all_goals
              go_wp2_with fail
              go_meet
              exact ⟨HRC.out, HBL.out⟩
      case rest =>
        obtain ⟨hvc, hbc⟩ := hcut
        obtain ⟨x0, hx0⟩ : ∃ x, rowV r 0 = x := ⟨_, rfl⟩
        obtain ⟨x1, hx1⟩ : ∃ x, rowV r 1 = x := ⟨_, rfl⟩
        obtain ⟨x2, hx2⟩ : ∃ x, rowV r 2 = x := ⟨_, rfl⟩
        rw [hx0, hx1, hx2] at hvc
        have HPC := hid_k (HBE.out W0 wc p s s A T HS.out hbc)
        have HVC := hid_k hvc
        have a0 : wc.cell? ⟨V, 0, none⟩ = some (.int .i64 x0) := by rw [cell_of_row wc V _ _ _ _ hvc]; rfl
        have a1 : wc.cell? ⟨V, 1, none⟩ = some (.int .i64 x1) := by rw [cell_of_row wc V _ _ _ _ hvc]; rfl
        have a2 : wc.cell? ⟨V, 2, none⟩ = some (.int .i64 x2) := by rw [cell_of_row wc V _ _ _ _ hvc]; rfl
        have hVw : V < wc.heap.size := World.block_lt_of_cell? wc _ a0
        have hAw : A < wc.heap.size := HPC.out.ltA
        have hTw : T < wc.heap.size := HPC.out.ltT
        have HVA : Hid (V ≠ A ∧ V ≠ T) := by have h1 := HS.out.ltA; have h2 := HS.out.ltT; have h3 := HV0.out; exact ⟨by omega, by omega⟩
        have HTX := hid_k (gTx_any x1 wc)
        clear hvc hbc hx0 hx1 hx2 HRC HBL HRW HS HV0
        obtain ⟨W0, hW0⟩ : ∃ W : World, W = wc := ⟨_, rfl⟩
        subst hW0
        go_wp2_with fail
        refine HTX.out.mono ?_
        rintro e w4 ⟨rfl, hw4⟩
        rw [hw4]
        clear hw4
        go_upto_if 86 with (fail)
        go_cut [5, 15] from 50 to 279 (fun s5 _ W => s5 = .int .i64 (if dealB x1 = true then 0 else 1) ∧ W = W0)
        case first =>
          cases hd : dealB x1 with
          | true =>
            as_aux_lemma =>
              go_wp2_with fail
              go_meet
              exact ⟨by rw [hd]; rfl, rfl⟩
          | false =>
            as_aux_lemma =>
              go_wp2_with fail
              go_meet
              exact ⟨by rw [hd]; rfl, rfl⟩
        case rest =>
          obtain ⟨rfl, hwc⟩ := hcut
          rw [hwc]
          clear hwc
          obtain ⟨eT, heT⟩ : ∃ e : Int, (if dealB x1 = true then (0 : Int) else 1) = e := ⟨_, rfl⟩
          rw [heT]
          have HET := hid_k heT
          clear heT HTX
          obtain ⟨nw, hnw⟩ : ∃ x, s.now = x := ⟨_, rfl⟩
          rw [hnw]
          have HNW1 := hid_k hnw
          have HOK := hid_k HPC.out.ok
          have HSMT : Hid (∀ k, k ≤ 6 → 0 ≤ sumTo s.take k ∧ sumTo s.take k ≤ 1000000) := fun k hk => by
            have h1 := sumTo_le HOK.out.take k hk
            have h2 := HOK.out.low
            have h3 := HOK.out.high
            have h4 := sumS_pos HOK.out.add
            unfold lowK at h2
            unfold highK at h3
            exact ⟨h1.1, by omega⟩
          have HSMA : Hid (∀ k, k ≤ 6 → 0 ≤ sumTo s.add k ∧ sumTo s.add k ≤ 1000000) := fun k hk => by
            have h1 := sumTo_le HOK.out.add k hk
            have h2 := HOK.out.low
            have h3 := HOK.out.high
            have h4 := sumS_pos HOK.out.take
            unfold lowK at h2
            unfold highK at h3
            exact ⟨h1.1, by omega⟩
          have hnwb : 0 ≤ nw ∧ nw ≤ 1000000 := by
            have h2 := HOK.out.low
            have h3 := HOK.out.high
            have h4 := sumS_pos HOK.out.take
            have h5 := sumS_pos HOK.out.add
            unfold lowK at h2
            unfold highK at h3
            omega
          clear hnw
          go_wp2_with fail
          go_loopw [16, 17, 18] (fun v16 v17 v18 wr => ∃ k : Nat, k ≤ 6 ∧ v18 = .int .i64 ((k : Int) + 1) ∧ v16 = .int .i64 (nw - sumTo s.take k) ∧ v17 = .int .i64 (nw + sumTo s.add k) ∧ wr = W0) (fun _ _ v18 _ => 7 - (intOf v18).toNat)
          case atStart => exact ⟨0, by omega, rfl, by simp [sumTo], by simp [sumTo], by first | exact rfl | trivial⟩
          case round =>
            obtain ⟨k, hk, rfl, rfl, rfl, hwr⟩ := hrel
            rw [hwr]
            clear hwr
            have q1 := HSMT.out k hk
            have q2 := HSMA.out k hk
            by_cases hk6 : k < 6
            · have hk6' : (k : Int) + 1 ≤ 6 := by omega
              have q3 := HSMT.out (k + 1) (by omega)
              have q4 := HSMA.out (k + 1) (by omega)
              have cT := HPC.out.cT (t := (k : Int) + 1) (by omega) hk6'
              have cA := HPC.out.cA (t := (k : Int) + 1) (by omega) hk6'
              rw [show ((k : Int) + 1).toNat = k + 1 by omega] at cT cA
              have HT1 : Hid (sumTo s.take (k + 1) = sumTo s.take k + s.take ((k : Int) + 1)) := rfl
              have HA1 : Hid (sumTo s.add (k + 1) = sumTo s.add k + s.add ((k : Int) + 1)) := rfl
              rw [HT1.out] at q3
              rw [HA1.out] at q4
              obtain ⟨ta, hta⟩ : ∃ x, s.take ((k : Int) + 1) = x := ⟨_, rfl⟩
              obtain ⟨aa, haa⟩ : ∃ x, s.add ((k : Int) + 1) = x := ⟨_, rfl⟩
              obtain ⟨st, hst⟩ : ∃ x, sumTo s.take k = x := ⟨_, rfl⟩
              obtain ⟨sa, hsa⟩ : ∃ x, sumTo s.add k = x := ⟨_, rfl⟩
              rw [hta] at cT q3 HT1
              rw [haa] at cA q4 HA1
              rw [hst] at q1 q3 HT1
              rw [hsa] at q2 q4 HA1
              rw [hst, hsa]
              clear hta haa hst hsa
              go_wp2_with fail
              go_roundw
              case rel => exact ⟨k + 1, by omega, by go_num, by rw [HT1.out]; congr 1; omega, by rw [HA1.out]; congr 1; omega, by first | exact rfl | trivial⟩
              case measure => simp [intOf]; omega
            · have hk6' : ¬ (k : Int) + 1 ≤ 6 := by omega
              obtain rfl : k = 6 := by omega
              rw [sumTo_six] at q1
              rw [sumTo_six] at q2
              rw [sumTo_six, sumTo_six]
              have hlo : nw - sumS s.take = lowK s := by unfold lowK; rw [HNW1.out]
              have hhi : nw + sumS s.add = highK s := by unfold highK; rw [HNW1.out]
              rw [hlo, hhi]
              have hlob : 0 ≤ lowK s ∧ lowK s ≤ 1000000 := by rw [← hlo]; have := HOK.out.low; rw [← hlo] at this; omega
              have hhib : 0 ≤ highK s ∧ highK s ≤ 1000000 := by rw [← hhi]; have := HOK.out.high; rw [← hhi] at this; omega
              obtain ⟨lo, hlo2⟩ : ∃ x, lowK s = x := ⟨_, rfl⟩
              obtain ⟨hi, hhi2⟩ : ∃ x, highK s = x := ⟨_, rfl⟩
              have HLO := hid_k hlo2
              have HHI := hid_k hhi2
              rw [hlo2] at hlob
              rw [hhi2] at hhib
              rw [hlo2, hhi2]
              clear hlo hhi hlo2 hhi2 q1 q2 hk hk6 hk6'
              go_upto_if 105 with (fail)
              go_cut [5, 8, 9, 19, 20, 21, 22, 23, 24] from 50 to 279 (fun s5 s8 s9 s19 s20 s21 s22 s23 s24 W => ∃ s' : Stk, s8 = .bool true ∧ s9 = .int .i64 s'.now ∧ PlAt Rep w W p s' s' A T)
              case first =>
                by_cases hx : x0 < 2
                · have hx' : decide (x0 < 2) = true := by simpa using hx
                  have hcs : x2 = 0 ∨ (x2 ≠ 0 ∧ x2 < -1000000) ∨ (x2 ≠ 0 ∧ ¬ x2 < -1000000 ∧ 1000000 < x2) ∨ (x2 ≠ 0 ∧ ¬ x2 < -1000000 ∧ ¬ 1000000 < x2) := by omega
                  rcases hcs with h2 | ⟨h2, h3⟩ | ⟨h2, h3, h4⟩ | ⟨h2, h3, h4⟩
                  · have HA1 : Hid (askE x1 x2 = 1) := by show _ = _; unfold askE; rw [if_pos (by omega)]
                    have e2 : (x2 == 0) = true := by simpa using h2
                    clear h2
                    as_aux_lemma =>
                      have HAB : Hid (askB s x1 x2 = false) := by show _ = _; unfold askB; rw [HA1.out]; rfl
                      have HSS : Hid (askS s x1 x2 = s) := by show _ = _; unfold askS; rw [HAB.out]; rfl
                      have HC := hid_k (HAS.out W0 p s s A T x1 x2 HPC.out)
                      rw [HAB.out, HA1.out, HSS.out] at HC
                      have HEV : Hid (errV 1 = .iface 41 (.int .i64 1)) := rfl
                      rw [HEV.out] at HC
                      go_wp2_with fail
                      refine HC.out.mono ?_
                      rintro e w5 ⟨rfl, hp5⟩
                      have HP5 := hid_k hp5
                      clear hp5
                      go_wp2_with fail
                      refine (HE1.out w5 HP5.out.old).mono ?_
                      rintro e w6 ⟨rfl, hb6⟩
                      have HP6 := hid_k (HBE.out w5 w6 p s s A T HP5.out hb6)
                      clear hb6
                      go_wp2_with fail
                      go_meet
                      exact ⟨s, rfl, by rw [HNW1.out], HP6.out⟩
                  · have HA1 : Hid (askE x1 x2 = 1) := by show _ = _; unfold askE; rw [if_pos (by omega)]
                    have e2 : (x2 == 0) = false := by simpa using h2
                    clear h2
                    as_aux_lemma =>
                      have HAB : Hid (askB s x1 x2 = false) := by show _ = _; unfold askB; rw [HA1.out]; rfl
                      have HSS : Hid (askS s x1 x2 = s) := by show _ = _; unfold askS; rw [HAB.out]; rfl
                      have HC := hid_k (HAS.out W0 p s s A T x1 x2 HPC.out)
                      rw [HAB.out, HA1.out, HSS.out] at HC
                      have HEV : Hid (errV 1 = .iface 41 (.int .i64 1)) := rfl
                      rw [HEV.out] at HC
                      go_wp2_with fail
                      refine HC.out.mono ?_
                      rintro e w5 ⟨rfl, hp5⟩
                      have HP5 := hid_k hp5
                      clear hp5
                      go_wp2_with fail
                      refine (HE1.out w5 HP5.out.old).mono ?_
                      rintro e w6 ⟨rfl, hb6⟩
                      have HP6 := hid_k (HBE.out w5 w6 p s s A T HP5.out hb6)
                      clear hb6
                      go_wp2_with fail
                      go_meet
                      exact ⟨s, rfl, by rw [HNW1.out], HP6.out⟩
                  · have HA1 : Hid (askE x1 x2 = 1) := by show _ = _; unfold askE; rw [if_pos (by omega)]
                    have e2 : (x2 == 0) = false := by simpa using h2
                    clear h2
                    as_aux_lemma =>
                      have HAB : Hid (askB s x1 x2 = false) := by show _ = _; unfold askB; rw [HA1.out]; rfl
                      have HSS : Hid (askS s x1 x2 = s) := by show _ = _; unfold askS; rw [HAB.out]; rfl
                      have HC := hid_k (HAS.out W0 p s s A T x1 x2 HPC.out)
                      rw [HAB.out, HA1.out, HSS.out] at HC
                      have HEV : Hid (errV 1 = .iface 41 (.int .i64 1)) := rfl
                      rw [HEV.out] at HC
                      go_wp2_with fail
                      refine HC.out.mono ?_
                      rintro e w5 ⟨rfl, hp5⟩
                      have HP5 := hid_k hp5
                      clear hp5
                      go_wp2_with fail
                      refine (HE1.out w5 HP5.out.old).mono ?_
                      rintro e w6 ⟨rfl, hb6⟩
                      have HP6 := hid_k (HBE.out w5 w6 p s s A T HP5.out hb6)
                      clear hb6
                      go_wp2_with fail
                      go_meet
                      exact ⟨s, rfl, by rw [HNW1.out], HP6.out⟩
                  · have e2 : (x2 == 0) = false := by simpa using h2
                    by_cases hd : 1 ≤ x1 ∧ x1 ≤ 6
                    · obtain rfl : 0 = eT := by rw [← HET.out]; unfold dealB; rw [if_pos (by simpa using hd)]
                      have HA1 : Hid (askE x1 x2 = 0) := by show _ = _; unfold askE; rw [if_neg (by omega)]
                      obtain ⟨h1x, h6x⟩ := hd
                      by_cases hneg : x2 < 0
                      · have hneg' : ¬ (0 : Int) < x2 := by omega
                        by_cases hcan : 0 ≤ lo + x2
                        · have HAB : Hid (askB s x1 x2 = true) := by show _ = _; unfold askB; rw [HA1.out, if_pos hneg, HLO.out, decide_eq_true hcan]; rfl
                          as_aux_lemma =>
                            have HSS : Hid (askS s x1 x2 = { s with take := putK s.take x1 (s.take x1 - x2) }) := by show _ = _; unfold askS; rw [HAB.out]; rw [if_pos rfl, if_pos hneg]
                            have c1 := HPC.out.cT h1x h6x
                            have f1 := HPC.out.fT x1.toNat
                            obtain ⟨tk, htk⟩ : ∃ x, s.take x1 = x := ⟨_, rfl⟩
                            have HTK := hid_k htk
                            have htb : 0 ≤ tk ∧ tk ≤ 1000000 := by rw [← htk]; have := sumS_ge HOK.out.take h1x h6x; have h2 := HOK.out.low; have h3 := HOK.out.high; have h4 := sumS_pos HOK.out.add; have h5 := HOK.out.take x1; unfold lowK at h2; unfold highK at h3; omega
                            rw [htk] at c1
                            clear htk
                            go_upto_region 35 with (fail)
                            go_cut [] from 50 to 279 (fun W => PlAt Rep w W p s { s with take := putK s.take x1 (s.take x1 - x2) } A T ∧ W.heap[V]? = some (.cells #[.int .i64 x0, .int .i64 x1, .int .i64 x2] 30 (0, 0)))
                            case first =>
                              go_region
                              all_goals
                                go_wp2_with fail
                                go_meet
                                refine ⟨?_, ?_⟩
                                · have h9 := HST.out W0 p s s A T x1 (s.take x1 - x2) HPC.out h1x h6x
                                  rw [HTK.out] at h9 ⊢
                                  exact HBE.out _ _ p s _ A T h9 (Below.refl _ _).drew
                                · exact (Below.heap_setCell _ _ _ _ HVA.out.2).trans HVC.out
                            case rest =>
                              obtain ⟨hpc, hvc⟩ := hcut
                              have HP4 := hid_k hpc
                              have b0 : wc.cell? ⟨V, 0, none⟩ = some (.int .i64 x0) := by rw [cell_of_row wc V _ _ _ _ hvc]; rfl
                              have b1 : wc.cell? ⟨V, 1, none⟩ = some (.int .i64 x1) := by rw [cell_of_row wc V _ _ _ _ hvc]; rfl
                              have b2 : wc.cell? ⟨V, 2, none⟩ = some (.int .i64 x2) := by rw [cell_of_row wc V _ _ _ _ hvc]; rfl
                              have hVc : V < wc.heap.size := World.block_lt_of_cell? wc _ b0
                              have HC := hid_k (HAS.out wc p s _ A T x1 x2 HP4.out)
                              rw [HAB.out, HA1.out, HSS.out] at HC
                              have HEV : Hid (errV 0 = .nilIface) := if_pos rfl
                              rw [HEV.out] at HC
                              clear hpc hvc a0 a1 a2 c1 f1
                              go_wp2_with fail
                              refine HC.out.mono ?_
                              rintro e w5 ⟨rfl, hp5⟩
                              have HP5 := hid_k hp5
                              clear hp5
                              go_wp2_with fail
                              refine (HE0.out w5 HP5.out.old).mono ?_
                              rintro e w6 ⟨rfl, hb6⟩
                              have HP6 := hid_k (HBE.out w5 w6 p _ _ A T HP5.out hb6)
                              clear hb6
                              go_wp2_with fail
                              go_meet
                              exact ⟨_, rfl, by rw [← HNW1.out], HP6.out⟩
                        · have HAB : Hid (askB s x1 x2 = false) := by show _ = _; unfold askB; rw [HA1.out, if_pos hneg, HLO.out, decide_eq_false hcan]; rfl
                          as_aux_lemma =>
                            have HSS : Hid (askS s x1 x2 = s) := by show _ = _; unfold askS; rw [HAB.out]; rfl
                            have HC := hid_k (HAS.out W0 p s s A T x1 x2 HPC.out)
                            rw [HAB.out, HA1.out, HSS.out] at HC
                            have HEV : Hid (errV 0 = .nilIface) := if_pos rfl
                            rw [HEV.out] at HC
                            go_wp2_with fail
                            refine HC.out.mono ?_
                            rintro e w5 ⟨rfl, hp5⟩
                            have HP5 := hid_k hp5
                            clear hp5
                            go_wp2_with fail
                            refine (HE0.out w5 HP5.out.old).mono ?_
                            rintro e w6 ⟨rfl, hb6⟩
                            have HP6 := hid_k (HBE.out w5 w6 p s s A T HP5.out hb6)
                            clear hb6
                            go_wp2_with fail
                            go_meet
                            exact ⟨s, rfl, by rw [HNW1.out], HP6.out⟩
                      · have hneg' : (0 : Int) < x2 := by omega
                        by_cases hcan : hi + x2 ≤ 1000000
                        · have HAB : Hid (askB s x1 x2 = true) := by show _ = _; unfold askB; rw [HA1.out, if_neg hneg, HHI.out, decide_eq_true hcan]; rfl
                          as_aux_lemma =>
                            have HSS : Hid (askS s x1 x2 = { s with add := putK s.add x1 (s.add x1 + x2) }) := by show _ = _; unfold askS; rw [HAB.out]; rw [if_pos rfl, if_neg hneg]
                            have c1 := HPC.out.cA h1x h6x
                            have f1 := HPC.out.fA x1.toNat
                            obtain ⟨tk, htk⟩ : ∃ x, s.add x1 = x := ⟨_, rfl⟩
                            have HTK := hid_k htk
                            have htb : 0 ≤ tk ∧ tk ≤ 1000000 := by rw [← htk]; have := sumS_ge HOK.out.add h1x h6x; have h2 := HOK.out.low; have h3 := HOK.out.high; have h4 := sumS_pos HOK.out.take; have h5 := HOK.out.add x1; unfold lowK at h2; unfold highK at h3; omega
                            rw [htk] at c1
                            clear htk
                            go_upto_region 38 with (fail)
                            go_cut [] from 50 to 279 (fun W => PlAt Rep w W p s { s with add := putK s.add x1 (s.add x1 + x2) } A T ∧ W.heap[V]? = some (.cells #[.int .i64 x0, .int .i64 x1, .int .i64 x2] 30 (0, 0)))
                            case first =>
                              go_region
                              all_goals
                                go_wp2_with fail
                                go_meet
                                refine ⟨?_, ?_⟩
                                · have h9 := HSA.out W0 p s s A T x1 (s.add x1 + x2) HPC.out h1x h6x
                                  rw [HTK.out] at h9 ⊢
                                  exact HBE.out _ _ p s _ A T h9 (Below.refl _ _).drew
                                · exact (Below.heap_setCell _ _ _ _ HVA.out.1).trans HVC.out
                            case rest =>
                              obtain ⟨hpc, hvc⟩ := hcut
                              have HP4 := hid_k hpc
                              have b0 : wc.cell? ⟨V, 0, none⟩ = some (.int .i64 x0) := by rw [cell_of_row wc V _ _ _ _ hvc]; rfl
                              have b1 : wc.cell? ⟨V, 1, none⟩ = some (.int .i64 x1) := by rw [cell_of_row wc V _ _ _ _ hvc]; rfl
                              have b2 : wc.cell? ⟨V, 2, none⟩ = some (.int .i64 x2) := by rw [cell_of_row wc V _ _ _ _ hvc]; rfl
                              have hVc : V < wc.heap.size := World.block_lt_of_cell? wc _ b0
                              have HC := hid_k (HAS.out wc p s _ A T x1 x2 HP4.out)
                              rw [HAB.out, HA1.out, HSS.out] at HC
                              have HEV : Hid (errV 0 = .nilIface) := if_pos rfl
                              rw [HEV.out] at HC
                              clear hpc hvc a0 a1 a2 c1 f1
                              go_wp2_with fail
                              refine HC.out.mono ?_
                              rintro e w5 ⟨rfl, hp5⟩
                              have HP5 := hid_k hp5
                              clear hp5
                              go_wp2_with fail
                              refine (HE0.out w5 HP5.out.old).mono ?_
                              rintro e w6 ⟨rfl, hb6⟩
                              have HP6 := hid_k (HBE.out w5 w6 p _ _ A T HP5.out hb6)
                              clear hb6
                              go_wp2_with fail
                              go_meet
                              exact ⟨_, rfl, by rw [← HNW1.out], HP6.out⟩
                        · have HAB : Hid (askB s x1 x2 = false) := by show _ = _; unfold askB; rw [HA1.out, if_neg hneg, HHI.out, decide_eq_false hcan]; rfl
                          as_aux_lemma =>
                            have HSS : Hid (askS s x1 x2 = s) := by show _ = _; unfold askS; rw [HAB.out]; rfl
                            have HC := hid_k (HAS.out W0 p s s A T x1 x2 HPC.out)
                            rw [HAB.out, HA1.out, HSS.out] at HC
                            have HEV : Hid (errV 0 = .nilIface) := if_pos rfl
                            rw [HEV.out] at HC
                            go_wp2_with fail
                            refine HC.out.mono ?_
                            rintro e w5 ⟨rfl, hp5⟩
                            have HP5 := hid_k hp5
                            clear hp5
                            go_wp2_with fail
                            refine (HE0.out w5 HP5.out.old).mono ?_
                            rintro e w6 ⟨rfl, hb6⟩
                            have HP6 := hid_k (HBE.out w5 w6 p s s A T HP5.out hb6)
                            clear hb6
                            go_wp2_with fail
                            go_meet
                            exact ⟨s, rfl, by rw [HNW1.out], HP6.out⟩
                    · obtain rfl : 1 = eT := by rw [← HET.out]; unfold dealB; rw [if_neg (by simpa using hd)]
                      have HA1 : Hid (askE x1 x2 = 1) := by show _ = _; unfold askE; rw [if_pos (by omega)]
                      as_aux_lemma =>
                        have HAB : Hid (askB s x1 x2 = false) := by show _ = _; unfold askB; rw [HA1.out]; rfl
                        have HSS : Hid (askS s x1 x2 = s) := by show _ = _; unfold askS; rw [HAB.out]; rfl
                        have HC := hid_k (HAS.out W0 p s s A T x1 x2 HPC.out)
                        rw [HAB.out, HA1.out, HSS.out] at HC
                        have HEV : Hid (errV 1 = .iface 41 (.int .i64 1)) := rfl
                        rw [HEV.out] at HC
                        go_wp2_with fail
                        refine HC.out.mono ?_
                        rintro e w5 ⟨rfl, hp5⟩
                        have HP5 := hid_k hp5
                        clear hp5
                        go_wp2_with fail
                        refine (HE1.out w5 HP5.out.old).mono ?_
                        rintro e w6 ⟨rfl, hb6⟩
                        have HP6 := hid_k (HBE.out w5 w6 p s s A T HP5.out hb6)
                        clear hb6
                        go_wp2_with fail
                        go_meet
                        exact ⟨s, rfl, by rw [HNW1.out], HP6.out⟩
                · have hx' : decide (x0 < 2) = false := by simpa using hx
                  have hdd : (1 ≤ x1 ∧ x1 ≤ 6) ∨ ¬ (1 ≤ x1 ∧ x1 ≤ 6) := Decidable.em _
                  rcases hdd with hd | hd
                  · obtain rfl : 0 = eT := by rw [← HET.out]; unfold dealB; rw [if_pos (by simpa using hd)]
                    obtain ⟨h1x, h6x⟩ := hd
                    have cA1 := HPC.out.cA h1x h6x
                    have cT1 := HPC.out.cT h1x h6x
                    obtain ⟨av, hav⟩ : ∃ x, s.add x1 = x := ⟨_, rfl⟩
                    obtain ⟨tv, htv⟩ : ∃ x, s.take x1 = x := ⟨_, rfl⟩
                    have HAV := hid_k hav
                    have HTV := hid_k htv
                    rw [hav] at cA1
                    rw [htv] at cT1
                    clear hav htv
                    by_cases hz : av = 0 ∧ tv = 0
                    · have HA1 : Hid (endE s x1 = 5) := by show _ = _; unfold endE; rw [if_neg (by omega), if_pos (by rw [HAV.out, HTV.out]; exact hz)]
                      have z1 : (av == 0) = true := by simpa using hz.1
                      have z2 : (tv == 0) = true := by simpa using hz.2
                      clear hz
                      as_aux_lemma =>
                        have HC := hid_k (HEN.out W0 p s s A T x1 (x0 == 2) HPC.out)
                        have HVV : Hid (endV s x1 (x0 == 2) = 0) := by show _ = _; unfold endV; rw [if_neg (by rw [HA1.out]; decide)]
                        have HSS : Hid (endS s x1 (x0 == 2) = s) := by show _ = _; unfold endS; rw [if_neg (by rw [HA1.out]; decide)]
                        rw [HVV.out, HA1.out, HSS.out] at HC
                        have HEV : Hid (errV 5 = .iface 41 (.int .i64 5)) := rfl
                        rw [HEV.out] at HC
                        have HEE : Hid (∀ W, Below w.heap.size w W → Calls Tryd.prog 5 #[.iface 41 (.int .i64 5), .int .i64 5] W fun r w' => r = .returned (.bool true) ∧ Below W.heap.size W w') := fun W hW => HER.out W 5 hW
                        go_wp2_with fail
                        refine HC.out.mono ?_
                        rintro e w5 ⟨rfl, hp5⟩
                        have HP5 := hid_k hp5
                        clear hp5
                        go_wp2_with fail
                        refine (HEE.out w5 HP5.out.old).mono ?_
                        rintro e w6 ⟨rfl, hb6⟩
                        have HP6 := hid_k (HBE.out w5 w6 p s s A T HP5.out hb6)
                        clear hb6
                        go_wp2_with fail
                        go_meet
                        exact ⟨s, rfl, by rw [HNW1.out], HP6.out⟩
                    · have HA1 : Hid (endE s x1 = 0) := by show _ = _; unfold endE; rw [if_neg (by omega), if_neg (by rw [HAV.out, HTV.out]; exact hz)]
                      have hbd : 0 ≤ av ∧ av ≤ 1000000 ∧ 0 ≤ tv ∧ tv ≤ 1000000 := by
                        have g1 := sumS_ge HOK.out.take h1x h6x
                        have g2 := sumS_ge HOK.out.add h1x h6x
                        have g3 := HOK.out.low
                        have g4 := HOK.out.high
                        have g5 := HOK.out.take x1
                        have g6 := HOK.out.add x1
                        have g7 := sumS_pos HOK.out.add
                        have g8 := sumS_pos HOK.out.take
                        unfold lowK at g3
                        unfold highK at g4
                        rw [HTV.out] at g1 g5
                        rw [HAV.out] at g2 g6
                        omega
                      have HEV : Hid (errV 0 = .nilIface) := if_pos rfl
                      have d1 := HPC.out.fA x1.toNat
                      have d2 := HPC.out.fT x1.toNat
                      have hVA := HVA.out.1
                      have hVT := HVA.out.2
                      have hAT := HPC.out.ne
                      have z0 : ((av == 0) && (tv == 0)) = false := by
                        rw [Bool.and_eq_false_iff]
                        by_cases g : av = 0
                        · exact .inr (by simpa using fun h => hz ⟨g, h⟩)
                        · exact .inl (by simpa using g)
                      have hzz : (av == 0) = false ∨ ((av == 0) = true ∧ (tv == 0) = false) := by
                        cases g : (av == 0) with
                        | false => exact .inl rfl
                        | true => rw [g, Bool.true_and] at z0; exact .inr ⟨rfl, z0⟩
                      clear z0 hz
                      rcases hzz with z1 | ⟨z1, z2⟩
                      all_goals
                        by_cases hc2 : x0 = 2
                        · have c2 : (x0 == 2) = true := by simpa using hc2
                          as_aux_lemma =>
                            have HVV : Hid (endV s x1 true = nw + av - tv) := by show _ = _; unfold endV endN; rw [if_pos HA1.out, if_pos rfl, HNW1.out, HAV.out, HTV.out]
                            have HSS : Hid (endS s x1 true = ⟨nw + av - tv, putK s.add x1 0, putK s.take x1 0⟩) := by show _ = _; unfold endS endN; rw [if_pos HA1.out, if_pos rfl, HNW1.out, HAV.out, HTV.out]
                            go_upto_region 46 with (fail)
                            go_quiet (fail)
                            go_wp2_with fail
                            have HP4 := hid_k (HST.out _ p s _ A T x1 0 (HSA.out (W0.drewN nq) p s s A T x1 0 (HBE.out W0 _ p s s A T HPC.out (below_drewN (Below.refl _ _) _)) h1x h6x) h1x h6x)
                            have HC := hid_k (HEN.out _ p s _ A T x1 true HP4.out)
                            rw [HVV.out, HA1.out, HSS.out, HEV.out] at HC
                            refine HC.out.mono ?_
                            rintro e w5 ⟨rfl, hp5⟩
                            have HP5 := hid_k hp5
                            clear hp5
                            go_wp2_with fail
                            refine (HE0.out w5 HP5.out.old).mono ?_
                            rintro e w6 ⟨rfl, hb6⟩
                            have HP6 := hid_k (HBE.out w5 w6 p _ _ A T HP5.out hb6)
                            clear hb6
                            go_wp2_with fail
                            go_meet
                            exact ⟨⟨nw + av - tv, putK s.add x1 0, putK s.take x1 0⟩, rfl, rfl, ⟨HP6.out.ok, HP6.out.old, HP6.out.rep, HP6.out.add, HP6.out.take, HP6.out.ne, HP6.out.newA, HP6.out.newT⟩⟩
                        · have c2 : (x0 == 2) = false := by simpa using hc2
                          as_aux_lemma =>
                            have HVV : Hid (endV s x1 false = nw) := by show _ = _; unfold endV endN; rw [if_pos HA1.out, if_neg (by decide), HNW1.out]
                            have HSS : Hid (endS s x1 false = ⟨nw, putK s.add x1 0, putK s.take x1 0⟩) := by show _ = _; unfold endS endN; rw [if_pos HA1.out, if_neg (by decide), HNW1.out]
                            go_wp2_with fail
                            have HP4 := hid_k (HST.out _ p s _ A T x1 0 (HSA.out W0 p s s A T x1 0 HPC.out h1x h6x) h1x h6x)
                            have HC := hid_k (HEN.out _ p s _ A T x1 false HP4.out)
                            rw [HVV.out, HA1.out, HSS.out, HEV.out] at HC
                            refine HC.out.mono ?_
                            rintro e w5 ⟨rfl, hp5⟩
                            have HP5 := hid_k hp5
                            clear hp5
                            go_wp2_with fail
                            refine (HE0.out w5 HP5.out.old).mono ?_
                            rintro e w6 ⟨rfl, hb6⟩
                            have HP6 := hid_k (HBE.out w5 w6 p _ _ A T HP5.out hb6)
                            clear hb6
                            go_wp2_with fail
                            go_meet
                            exact ⟨⟨nw, putK s.add x1 0, putK s.take x1 0⟩, rfl, rfl, ⟨HP6.out.ok, HP6.out.old, HP6.out.rep, HP6.out.add, HP6.out.take, HP6.out.ne, HP6.out.newA, HP6.out.newT⟩⟩
                  · obtain rfl : 1 = eT := by rw [← HET.out]; unfold dealB; rw [if_neg (by simpa using hd)]
                    have HA1 : Hid (endE s x1 = 1) := by show _ = _; unfold endE; rw [if_pos (by omega)]
                    as_aux_lemma =>
                      have HC := hid_k (HEN.out W0 p s s A T x1 (x0 == 2) HPC.out)
                      have HVV : Hid (endV s x1 (x0 == 2) = 0) := by show _ = _; unfold endV; rw [if_neg (by rw [HA1.out]; decide)]
                      have HSS : Hid (endS s x1 (x0 == 2) = s) := by show _ = _; unfold endS; rw [if_neg (by rw [HA1.out]; decide)]
                      rw [HVV.out, HA1.out, HSS.out] at HC
                      have HEV : Hid (errV 1 = .iface 41 (.int .i64 1)) := rfl
                      rw [HEV.out] at HC
                      have HEE : Hid (∀ W, Below w.heap.size w W → Calls Tryd.prog 5 #[.iface 41 (.int .i64 1), .int .i64 1] W fun r w' => r = .returned (.bool true) ∧ Below W.heap.size W w') := fun W hW => HER.out W 1 hW
                      go_wp2_with fail
                      refine HC.out.mono ?_
                      rintro e w5 ⟨rfl, hp5⟩
                      have HP5 := hid_k hp5
                      clear hp5
                      go_wp2_with fail
                      refine (HEE.out w5 HP5.out.old).mono ?_
                      rintro e w6 ⟨rfl, hb6⟩
                      have HP6 := hid_k (HBE.out w5 w6 p s s A T HP5.out hb6)
                      clear hb6
                      go_wp2_with fail
                      go_meet
                      exact ⟨s, rfl, by rw [HNW1.out], HP6.out⟩
              case rest =>
                as_aux_lemma =>
                  obtain ⟨s', rfl, rfl, hpl⟩ := hcut
                  clear a0 a1 a2 HPC HVC HVA HOK HSMT HSMA HNW1 HLO HHI hlob hhib hnwb HET
                  have HPC := hid_k hpl
                  have HOK := hid_k hpl.ok
                  obtain ⟨W1, hW1⟩ : ∃ W : World, W = wc := ⟨_, rfl⟩
                  subst hW1
                  obtain ⟨nw, hnw⟩ : ∃ x, s'.now = x := ⟨_, rfl⟩
                  have HNW1 := hid_k hnw
                  have HSMT : Hid (∀ k, k ≤ 6 → 0 ≤ sumTo s'.take k ∧ sumTo s'.take k ≤ 1000000) := fun k hk => by
                    have h1 := sumTo_le HOK.out.take k hk
                    have h2 := HOK.out.low
                    have h3 := HOK.out.high
                    have h4 := sumS_pos HOK.out.add
                    unfold lowK at h2
                    unfold highK at h3
                    exact ⟨h1.1, by omega⟩
                  have HSMA : Hid (∀ k, k ≤ 6 → 0 ≤ sumTo s'.add k ∧ sumTo s'.add k ≤ 1000000) := fun k hk => by
                    have h1 := sumTo_le HOK.out.add k hk
                    have h2 := HOK.out.low
                    have h3 := HOK.out.high
                    have h4 := sumS_pos HOK.out.take
                    unfold lowK at h2
                    unfold highK at h3
                    exact ⟨h1.1, by omega⟩
                  have hnwb : 0 ≤ nw ∧ nw ≤ 1000000 := by
                    have h2 := HOK.out.low
                    have h3 := HOK.out.high
                    have h4 := sumS_pos HOK.out.take
                    have h5 := sumS_pos HOK.out.add
                    unfold lowK at h2
                    unfold highK at h3
                    omega
                  have hAw1 := hpl.ltA
                  have hTw1 := hpl.ltT
                  rw [hnw]
                  clear hnw hpl
                  go_wp2_with fail
                  go_loopw [16, 17, 25] (fun v16 v17 v25 wr => ∃ k : Nat, k ≤ 6 ∧ v25 = .int .i64 ((k : Int) + 1) ∧ v16 = .int .i64 (nw - sumTo s'.take k) ∧ v17 = .int .i64 (nw + sumTo s'.add k) ∧ wr = W1) (fun _ _ v25 _ => 7 - (intOf v25).toNat)
                  case atStart => exact ⟨0, by omega, rfl, by simp [sumTo], by simp [sumTo], by first | exact rfl | trivial⟩
                  case round =>
                    obtain ⟨k, hk, rfl, rfl, rfl, hwr⟩ := hrel
                    rw [hwr]
                    clear hwr
                    have q1 := HSMT.out k hk
                    have q2 := HSMA.out k hk
                    by_cases hk6 : k < 6
                    · have hk6' : (k : Int) + 1 ≤ 6 := by omega
                      have q3 := HSMT.out (k + 1) (by omega)
                      have q4 := HSMA.out (k + 1) (by omega)
                      have cT := HPC.out.cT (t := (k : Int) + 1) (by omega) hk6'
                      have cA := HPC.out.cA (t := (k : Int) + 1) (by omega) hk6'
                      rw [show ((k : Int) + 1).toNat = k + 1 by omega] at cT cA
                      have HT1 : Hid (sumTo s'.take (k + 1) = sumTo s'.take k + s'.take ((k : Int) + 1)) := rfl
                      have HA1 : Hid (sumTo s'.add (k + 1) = sumTo s'.add k + s'.add ((k : Int) + 1)) := rfl
                      rw [HT1.out] at q3
                      rw [HA1.out] at q4
                      obtain ⟨ta, hta⟩ : ∃ x, s'.take ((k : Int) + 1) = x := ⟨_, rfl⟩
                      obtain ⟨aa, haa⟩ : ∃ x, s'.add ((k : Int) + 1) = x := ⟨_, rfl⟩
                      obtain ⟨st, hst⟩ : ∃ x, sumTo s'.take k = x := ⟨_, rfl⟩
                      obtain ⟨sa, hsa⟩ : ∃ x, sumTo s'.add k = x := ⟨_, rfl⟩
                      rw [hta] at cT q3 HT1
                      rw [haa] at cA q4 HA1
                      rw [hst] at q1 q3 HT1
                      rw [hsa] at q2 q4 HA1
                      rw [hst, hsa]
                      clear hta haa hst hsa
                      go_wp2_with fail
                      go_roundw
                      case rel => exact ⟨k + 1, by omega, by go_num, by rw [HT1.out]; congr 1; omega, by rw [HA1.out]; congr 1; omega, by first | exact rfl | trivial⟩
                      case measure => simp [intOf]; omega
                    · have hk6' : ¬ (k : Int) + 1 ≤ 6 := by omega
                      obtain rfl : k = 6 := by omega
                      rw [sumTo_six, sumTo_six]
                      have hlo : nw - sumS s'.take = lowK s' := by unfold lowK; rw [HNW1.out]
                      have hhi : nw + sumS s'.add = highK s' := by unfold highK; rw [HNW1.out]
                      rw [hlo, hhi]
                      have HRG := hid_k (HRA.out W1 p s' s' A T HPC.out)
                      have HNN : Hid (∀ W, PlAt Rep w W p s' s' A T → Calls Tryd.prog 10 #[.pointer (some ⟨p, 0, none⟩)] W fun e w' => e = .returned (.int .i64 nw) ∧ Below W.heap.size W w') := fun W hW => by have := HNO.out W p s' s' A T hW; rw [HNW1.out] at this; exact this
                      obtain ⟨lo2, hlo2⟩ : ∃ x, lowK s' = x := ⟨_, rfl⟩
                      obtain ⟨hi2, hhi2⟩ : ∃ x, highK s' = x := ⟨_, rfl⟩
                      rw [hlo2, hhi2] at HRG
                      rw [hlo2, hhi2]
                      clear hlo hhi hlo2 hhi2 q1 q2 hk hk6 hk6'
                      go_wp2_with fail
                      refine HRG.out.mono ?_
                      rintro e w7 ⟨rfl, hb7⟩
                      have HP7 := hid_k (HBE.out W1 w7 p s' s' A T HPC.out hb7)
                      clear hb7
                      go_wp2_with fail
                      refine (HNN.out w7 HP7.out).mono ?_
                      rintro e w8 ⟨rfl, hb8⟩
                      have HP8 := hid_k (HBE.out w7 w8 p s' s' A T HP7.out hb8)
                      clear hb8
                      go_wp2_with fail
                      go_roundw
                      case rel => exact ⟨i + 1, s', by omega, by go_num, by rw [HNW1.out], HP8.out⟩
                      case measure => simp [intOf]; omega
    · have hnd : ¬ ((i : Int) < (len : Int)) ∨ ((i : Int) < (len : Int) ∧ ¬ (i : Int) < 80) := by omega
      rcases hnd with g1 | ⟨g1, g2⟩
      all_goals
        go_wp2_with fail
        go_ret
        exact ⟨rfl, HS.out.old⟩
end Go.Proofs.YtaodbljpihcjnaaDoor
