/-
  PROVED HERE: lanelaw3.StockBetween returns true, whatever the number and the steps, if package stock answers as it is asked; old memory stays as it was.
  Conditions: package stock's contract (StockW).
-/
import Derived.Test.YtaodbljpihcjnaaSkAsk
import Derived.Test.YtaodbljpihcjnaaSkRows
import Derived.Deep.Cut
namespace Go.Proofs.Ytaodbljpihcjnaa
open Go.RowKit

theorem block_setK {w : World} {T k : Nat} {cs : Array Value} {ty : TypeId} {u : Value} (h : w.heap[T]? = some (.cells cs ty (0, 0))) : (w.setCell ⟨T, k, none⟩ u).heap[T]? = some (.cells (cs.setIfInBounds k u) ty (0, 0)) := by
  unfold World.setCell
  simp [Array.getElem?_modify, h]
theorem sk_first : askB (stk0 10) 1 (-7) = true ∧ askE 1 (-7) = 0 ∧ askB (askS (stk0 10) 1 (-7)) 2 (-4) = false ∧ askE 2 (-4) = 0 ∧ endV (askS (askS (stk0 10) 1 (-7)) 2 (-4)) 1 true = 3 ∧ endE (askS (askS (stk0 10) 1 (-7)) 2 (-4)) 1 = 0 := by decide +kernel
/-- What is left when each has been told to end. -/
structure LeftK (s : Stk) (k : Nat) : Prop where
  none : ∀ t : Int, 1 ≤ t → t ≤ (k : Int) → s.add t = 0 ∧ s.take t = 0
theorem LeftK.step {s : Stk} {k : Nat} (h : LeftK s k) (hk : k < 6) (c : Bool) : LeftK (endS s ((k : Int) + 1) c) (k + 1) := by
  refine ⟨fun t h1 h2 => ?_⟩
  by_cases e : t = (k : Int) + 1
  · subst e; exact end_none s _ c (by omega) (by omega)
  · exact end_keeps c (h.none t h1 (by omega))
set_option maxHeartbeats 32000000 in
set_option maxRecDepth 100000 in
theorem skbetw_any {Rep : World → Nat → Stk → (Nat → Prop) → Prop} (hR : StockW Rep) (n : Int) (rs : List (List Int)) (v : Value) (w : World) (hI : IsRows w v rs) :
    Calls Try.prog 3 #[.int .i64 n, v] w fun e w' => e = .returned (.bool true) ∧ Below w.heap.size w w' := by
  have HNW : Hid (∀ (n : Int) W, Calls Try.prog 5 #[.int .i64 n] W fun e w' => (((n < 0 ∨ 1000000 < n) ∧ Below W.heap.size W w' ∧ ∃ po, e = .returned (.tuple #[.pointer po, .iface 39 (.int .i64 1)])) ∨ ((0 ≤ n ∧ n ≤ 1000000) ∧ ∃ p, e = .returned (.tuple #[ptK p, .nilIface]) ∧ SkAt Rep W w' p (stk0 n)))) := fun n W => sk_new hR n W
  have HAS : Hid (∀ w0 W p s t d, SkAt Rep w0 W p s → Calls Try.prog 6 #[ptK p, .int .i64 t, .int .i64 d] W fun e w' => e = .returned (.tuple #[.bool (askB s t d), errV (askE t d)]) ∧ SkAt Rep w0 w' p (askS s t d)) := fun w0 W p s t d h => sk_ask hR h t d
  have HEN : Hid (∀ w0 W p s t c, SkAt Rep w0 W p s → Calls Try.prog 7 #[ptK p, .int .i64 t, .bool c] W fun e w' => e = .returned (.tuple #[.int .i64 (endV s t c), errV (endE s t)]) ∧ SkAt Rep w0 w' p (endS s t c)) := fun w0 W p s t c h => sk_end hR h t c
  have HNO : Hid (∀ w0 W p s, SkAt Rep w0 W p s → Calls Try.prog 9 #[ptK p] W fun e w' => e = .returned (.int .i64 s.now) ∧ Below W.heap.size W w') := fun w0 W p s h => sk_now hR h
  have HRA : Hid (∀ w0 W p s, SkAt Rep w0 W p s → Calls Try.prog 8 #[ptK p] W fun e w' => e = .returned (.tuple #[.int .i64 (lowK s), .int .i64 (highK s)]) ∧ Below W.heap.size W w') := fun w0 W p s h => sk_range hR h
  have HBE : Hid (∀ w0 W W1 p s, SkAt Rep w0 W p s → Below W.heap.size W W1 → SkAt Rep w0 W1 p s) := fun w0 W W1 p s h hb => SkAt.below hR h hb
  have HN1 := hid_k (HNW.out 10 w)
  have HF := hid_k sk_first
  obtain ⟨ad, b, off, cap, rfl, ha, hbB, hc⟩ := hI
  have HE : Hid (∀ W, Below w.heap.size w W → ∀ i, i < rs.length → ad = some ⟨b, off, none⟩ ∧ b < W.heap.size ∧ ∃ ad2 cap2, W.cell? ⟨b, off + i, none⟩ = some (.slice ad2 (rs.getD i []).length cap2) ∧ IsInts W (.slice ad2 (rs.getD i []).length cap2) (rs.getD i [])) := fun W hW i hi => by
    have hb : b < w.heap.size := by
      rcases hbB with h | h
      · exact h
      · subst h; simp at hi
    obtain ⟨u, h1, h2⟩ := hc i hi
    have h2' := h2
    obtain ⟨ad2, _, _, cap2, rfl, _⟩ := h2'
    exact ⟨ha (by omega), Nat.lt_of_lt_of_le hb hW.size, ad2, cap2, (hW.cell (p := ⟨b, off + i, none⟩) hb).trans h1, h2.below hW (Nat.le_refl _)⟩
  clear hR ha hbB hc
  unfold ptK at HNW HAS HEN HNO HRA HN1
  obtain ⟨len, hlen⟩ : ∃ m, rs.length = m := ⟨_, rfl⟩
  rw [hlen] at HE
  rw [hlen]
  clear hlen
  go_enter Try.func3, Try.ntmps3
  go_wp2_with fail
  refine HN1.out.mono ?_
  rintro e w1 (⟨hbad, -⟩ | ⟨-, q, rfl, hs⟩)
  · omega
  have HS1 := hid_k hs
  have HA1 := hid_k (HAS.out w w1 q _ 1 (-7) hs)
  rw [HF.out.1, HF.out.2.1] at HA1
  clear hs HN1
  go_wp2_with fail
  refine HA1.out.mono ?_
  rintro e w2 ⟨rfl, hs2⟩
  have HA2 := hid_k (HAS.out w w2 q _ 2 (-4) hs2)
  rw [HF.out.2.2.1, HF.out.2.2.2.1] at HA2
  clear hs2
  go_wp2_with fail
  refine HA2.out.mono ?_
  rintro e w3 ⟨rfl, hs3⟩
  have HE3 := hid_k (HEN.out w w3 q _ 1 true hs3)
  rw [HF.out.2.2.2.2.1, HF.out.2.2.2.2.2] at HE3
  clear hs3
  go_wp2_with fail
  refine HE3.out.mono ?_
  rintro e w4 ⟨rfl, hs4⟩
  have HB4 : Hid (Below w.heap.size w w4) := hs4.2.1
  have HN4 := hid_k (HNW.out n w4)
  clear hs4 HA1 HA2 HE3 HS1
  have HEV : Hid (errV 0 = .nilIface) := if_pos rfl
  rw [HEV.out]
  go_wp2_with fail
  refine HN4.out.mono ?_
  rintro e w5 (⟨hn, hb5, po, rfl⟩ | ⟨⟨hn0, hn1⟩, p, rfl, hs5⟩)
  · have HB5 : Hid (Below w.heap.size w w5) := HB4.out.trans (hb5.mono HB4.out.size)
    clear hb5
    by_cases h0 : n < 0
    · clear hn
      go_wp2_with fail
      go_ret
      exact ⟨rfl, HB5.out⟩
    · have h1 : (1000000 : Int) < n := by omega
      clear hn
      go_wp2_with fail
      go_ret
      exact ⟨rfl, HB5.out⟩
  · have HS5 := hid_k hs5
    clear hs5 HN4
    go_wp2_with fail
    go_loopw [15] (fun v15 wr => ∃ (i : Nat) (s : Stk), i ≤ 80 ∧ v15 = .int .i64 i ∧ SkAt Rep w4 wr p s) (fun v15 _ => 81 - (intOf v15).toNat)
    case atStart => exact ⟨0, _, by omega, rfl, HS5.out⟩
    case round =>
      obtain ⟨i, s, hi80, rfl, hs⟩ := hrel
      have HS := hid_k hs
      clear hs HS5
      have HBW : Hid (Below w.heap.size w wr) := HB4.out.trans (HS.out.2.1.mono HB4.out.size)
      by_cases hgo : i < len ∧ i < 80
      · have g1 : (i : Int) < (len : Int) := by omega
        have g2 : (i : Int) < 80 := by omega
        obtain ⟨r, hr⟩ : ∃ r, rs.getD i [] = r := ⟨_, rfl⟩
        have HRW : Hid (∀ W, Below w.heap.size w W → ad = some ⟨b, off, none⟩ ∧ b < W.heap.size ∧ ∃ ad2 cap2, W.cell? ⟨b, off + i, none⟩ = some (.slice ad2 r.length cap2) ∧ IsInts W (.slice ad2 r.length cap2) r) := fun W hW => by have := HE.out W hW i hgo.1; rw [hr] at this; exact this
        obtain ⟨W0, hW0⟩ : ∃ W : World, W = wr := ⟨_, rfl⟩
        subst hW0
        obtain ⟨rfl, -, -⟩ := HRW.out W0 HBW.out
        clear hr hgo
        go_upto_region 16 with (fail)
        obtain ⟨W1, hW1⟩ : ∃ W, W = W0.alloc (.cells #[.int .i64 0, .int .i64 0, .int .i64 0] 32) := ⟨_, rfl⟩
        rw [← hW1]
        obtain ⟨A, hA⟩ : ∃ A, A = W0.heap.size := ⟨_, rfl⟩
        rw [← hA]
        have HA0 : Hid (W0.heap.size ≤ A) := by show _ ≤ _; omega
        have HRC : Hid (W1.heap[A]? = some (.cells (rowC r 0) 32 (0, 0))) := by show _ = _; rw [hW1, hA, rowC_zero]; exact heap_alloc_new W0 _
        have HBL : Hid (Below W0.heap.size W0 W1) := by show Below _ _ _; rw [hW1]; exact (Below.refl _ W0).alloc (Nat.le_refl _) _
        clear hW1 hA
        go_wp2_with fail
        go_loopw [17] (fun v17 wr => ∃ j : Nat, j ≤ r.length ∧ j ≤ 3 ∧ v17 = .int .i64 j ∧ wr.heap[A]? = some (.cells (rowC r j) 32 (0, 0)) ∧ Below W0.heap.size W0 wr) (fun v17 _ => 4 - (intOf v17).toNat)
        case atStart => exact ⟨0, Nat.zero_le _, by omega, rfl, HRC.out, HBL.out⟩
        case round =>
          obtain ⟨j, hjr, hj3, rfl, hrc, hbl⟩ := hrel
          clear HRC HBL
          have HRC := hid_k hrc
          have HBL := hid_k hbl
          have HBW1 : Hid (Below w.heap.size w wr) := HBW.out.trans (hbl.mono HBW.out.size)
          clear hrc hbl
          obtain ⟨-, hbw, ad2, cap2, hrow, hri⟩ := HRW.out wr HBW1.out
          have hAw : A < wr.heap.size := (Array.getElem?_eq_some_iff.1 HRC.out).1
          by_cases hjj : j < r.length ∧ j < 3
          · have j1 : (j : Int) < (r.length : Int) := by omega
            have j2 : (j : Int) < 3 := by omega
            obtain ⟨ad3, b3, off3, cap3, hv3, ha3, -, hb3, hc3⟩ := hri
            injection hv3 with e1 e2 e3
            have hcell := hc3 j hjj.1
            have e4 : ad2 = some ⟨b3, off3, none⟩ := by rw [e1]; exact ha3 (by omega)
            have hb3' : b3 < wr.heap.size := World.block_lt_of_cell? wr _ hcell
            subst e4
            obtain ⟨x, hx⟩ : ∃ x, r.getD j 0 = x := ⟨_, rfl⟩
            have HRS := hid_k (rowC_succ r hjj.2)
            rw [hx] at hcell HRS
            have hsz : (rowC r j).size = 3 := rfl
            obtain ⟨old, hold⟩ : ∃ o, wr.cell? ⟨A, j, none⟩ = some o := by
              rw [cell_of_row wr A _ _ _ _ HRC.out]
              exact ⟨_, Array.getElem?_eq_getElem (by rw [hsz]; omega)⟩
            have hfz : wr.frozen? ⟨A, j, none⟩ = false := by simp [World.frozen?, HRC.out]
            obtain ⟨L, hL⟩ : ∃ L, r.length = L := ⟨_, rfl⟩
            rw [hL] at hrow j1
            have HLL := hid_k hL
            have HJJ := hid_k hjj
            clear hx e1 e2 e3 ha3 hb3 hc3 hsz hL hjj hjr
            go_wp2_with fail
            go_roundw
            case rel => exact ⟨j + 1, by have := HJJ.out; omega, by have := HJJ.out; omega, by go_num, by rw [block_setK HRC.out, HRS.out], HBL.out.setCell (p := ⟨A, j, none⟩) HA0.out _⟩
            case measure => simp [intOf]; omega
          · have HEND := hid_k (rowC_end r hjr hj3 hjj)
            rw [HEND.out] at HRC
            have jn : (j : Int) < (r.length : Int) → ¬ (j : Int) < 3 := fun h => by omega
            have HSR : Hid (SkAt Rep w4 wr p s) := HBE.out w4 W0 wr p s HS.out HBL.out
            obtain ⟨x0, hx0⟩ : ∃ x, rowV r 0 = x := ⟨_, rfl⟩
            obtain ⟨x1, hx1⟩ : ∃ x, rowV r 1 = x := ⟨_, rfl⟩
            obtain ⟨x2, hx2⟩ : ∃ x, rowV r 2 = x := ⟨_, rfl⟩
            rw [hx0, hx1, hx2] at HRC
            have a0 : wr.cell? ⟨A, 0, none⟩ = some (.int .i64 x0) := by rw [cell_of_row wr A _ _ _ _ HRC.out]; rfl
            have a1 : wr.cell? ⟨A, 1, none⟩ = some (.int .i64 x1) := by rw [cell_of_row wr A _ _ _ _ HRC.out]; rfl
            have a2 : wr.cell? ⟨A, 2, none⟩ = some (.int .i64 x2) := by rw [cell_of_row wr A _ _ _ _ HRC.out]; rfl
            have HRG := hid_k (HRA.out w4 wr p s HSR.out)
            obtain ⟨lo, hlo⟩ : ∃ x, lowK s = x := ⟨_, rfl⟩
            obtain ⟨hg, hhg⟩ : ∃ x, highK s = x := ⟨_, rfl⟩
            have HBT : Hid (lo ≤ s.now ∧ s.now ≤ hg) := by show _ ∧ _; rw [← hlo, ← hhg]; exact stk_between HSR.out.1
            rw [hlo, hhg] at HRG
            have HLO := hid_k hlo
            have HHG := hid_k hhg
            obtain ⟨L, hL⟩ : ∃ L, r.length = L := ⟨_, rfl⟩
            rw [hL] at hrow jn
            clear hri hjr hj3 hjj hx0 hx1 hx2 hlo hhg hL
            have hbr : ¬ (j : Int) < (L : Int) ∨ ((j : Int) < (L : Int) ∧ ¬ (j : Int) < 3) := by
              rcases Decidable.em ((j : Int) < (L : Int)) with h | h
              · exact .inr ⟨h, jn h⟩
              · exact .inl h
            clear jn
            rcases hbr with hbr | ⟨hbr, jn'⟩
            · go_wp2_with fail
              refine HRG.out.mono ?_
              rintro e w6 ⟨rfl, hb6⟩
              have HS6 := hid_k (HBE.out w4 wr w6 p s HSR.out hb6)
              have b0 := (hb6.cell (p := ⟨A, 0, none⟩) hAw).trans a0
              have b1 := (hb6.cell (p := ⟨A, 1, none⟩) hAw).trans a1
              have b2 := (hb6.cell (p := ⟨A, 2, none⟩) hAw).trans a2
              have hA6 : A < w6.heap.size := World.block_lt_of_cell? w6 _ b0
              clear hb6 a0 a1 a2 hAw
              by_cases hx : x0 < 2
              · have HC := hid_k (HAS.out w4 w6 p s x1 x2 HS6.out)
                go_wp2_with fail
                refine HC.out.mono ?_
                rintro e w7 ⟨rfl, hs7⟩
                obtain ⟨s9, hs9⟩ : ∃ x, askS s x1 x2 = x := ⟨_, rfl⟩
                obtain ⟨nw, hnw⟩ : ∃ x, s.now = x := ⟨_, rfl⟩
                have HNW9 : Hid (s9.now = nw) := by show _ = _; rw [← hs9, ask_now]; exact hnw
                rw [hs9] at hs7
                have HS7 := hid_k hs7
                have HN7 : Hid (∀ W, SkAt Rep w4 W p s9 → Calls Try.prog 9 #[.pointer (some ⟨p, 0, none⟩)] W fun e w' => e = .returned (.int .i64 nw) ∧ Below W.heap.size W w') := fun W hW => by have := HNO.out w4 W p s9 hW; rw [HNW9.out] at this; exact this
                have y1 : ¬ nw < lo := by have := HBT.out; omega
                have y2 : ¬ hg < nw := by have := HBT.out; omega
                clear hs7 hs9 hnw
                go_wp2_with fail
                refine (HN7.out w7 HS7.out).mono ?_
                rintro e w8 ⟨rfl, hb8⟩
                have HS8 := hid_k (HBE.out w4 w7 w8 p s9 HS7.out hb8)
                clear hb8
                go_wp2_with fail
                refine (HN7.out w8 HS8.out).mono ?_
                rintro e w9 ⟨rfl, hb9⟩
                have HS9 := hid_k (HBE.out w4 w8 w9 p s9 HS8.out hb9)
                clear hb9
                have HLH := hid_k (stk_between HS9.out.1)
                have HLO9 := hid_k HS9.out.1.low
                have HHI9 := hid_k HS9.out.1.high
                have HR9 := hid_k (HRA.out w4 w9 p s9 HS9.out)
                obtain ⟨nw9, hnw9⟩ : ∃ x, s9.now = x := ⟨_, rfl⟩
                obtain ⟨lo9, hlo9⟩ : ∃ x, lowK s9 = x := ⟨_, rfl⟩
                obtain ⟨hi9, hhi9⟩ : ∃ x, highK s9 = x := ⟨_, rfl⟩
                have HNN : Hid (∀ W, SkAt Rep w4 W p s9 → Calls Try.prog 9 #[.pointer (some ⟨p, 0, none⟩)] W fun e w' => e = .returned (.int .i64 nw9) ∧ Below W.heap.size W w') := fun W hW => by have := HNO.out w4 W p s9 hW; rw [hnw9] at this; exact this
                rw [hlo9, hhi9] at HR9
                have z1 : ¬ nw9 < lo9 := by have := HLH.out; omega
                have z2 : ¬ hi9 < nw9 := by have := HLH.out; omega
                have z3 : ¬ lo9 < 0 := by have := HLO9.out; omega
                have z4 : ¬ (1000000 : Int) < hi9 := by have := HHI9.out; omega
                clear hnw9 hlo9 hhi9 HLH HLO9 HHI9
                go_wp2_with fail
                refine HR9.out.mono ?_
                rintro e wa ⟨rfl, hba⟩
                have HSA := hid_k (HBE.out w4 w9 wa p s9 HS9.out hba)
                have HNA := hid_k (HNN.out wa HSA.out)
                clear hba
                go_wp2_with fail
                refine HNA.out.mono ?_
                rintro e wb ⟨rfl, hbb⟩
                have HSB := hid_k (HBE.out w4 wa wb p s9 HSA.out hbb)
                have HNB := hid_k (HNN.out wb HSB.out)
                clear hbb
                go_wp2_with fail
                refine HNB.out.mono ?_
                rintro e wc ⟨rfl, hbc⟩
                have HSC := hid_k (HBE.out w4 wb wc p s9 HSB.out hbc)
                clear hbc
                go_wp2_with fail
                go_roundw
                case rel => exact ⟨i + 1, s9, by omega, by go_num, HSC.out⟩
                case measure => simp [intOf]; omega
              · have HC := hid_k (HEN.out w4 w6 p s x1 (x0 == 2) HS6.out)
                have HEB := hid_k (end_between HS6.out.1 x1 (x0 == 2))
                obtain ⟨s9, hs9⟩ : ∃ x, endS s x1 (x0 == 2) = x := ⟨_, rfl⟩
                obtain ⟨kv, hkv⟩ : ∃ x, endV s x1 (x0 == 2) = x := ⟨_, rfl⟩
                rw [hs9, hkv] at HC
                rw [hs9, hkv, HLO.out, HHG.out] at HEB
                have HRR : Hid (∀ W, SkAt Rep w4 W p s9 → Calls Try.prog 8 #[.pointer (some ⟨p, 0, none⟩)] W fun e w' => e = .returned (.tuple #[.int .i64 (lowK s9), .int .i64 (highK s9)]) ∧ Below W.heap.size W w') := fun W hW => HRA.out w4 W p s9 hW
                obtain ⟨lo8, hlo8⟩ : ∃ x, lowK s9 = x := ⟨_, rfl⟩
                obtain ⟨hi8, hhi8⟩ : ∃ x, highK s9 = x := ⟨_, rfl⟩
                rw [hlo8, hhi8] at HRR HEB
                have y3 : ¬ lo8 < lo := by have := HEB.out.1; omega
                have y4 : ¬ hg < hi8 := by have := HEB.out.2.1; omega
                clear hs9 hkv hlo8 hhi8
                by_cases hee : endE s x1 = 0
                · obtain ⟨e1, e2, e3⟩ := HEB.out.2.2 hee
                  rw [hee, HEV.out] at HC
                  have HNK : Hid (∀ W, SkAt Rep w4 W p s9 → Calls Try.prog 9 #[.pointer (some ⟨p, 0, none⟩)] W fun e w' => e = .returned (.int .i64 kv) ∧ Below W.heap.size W w') := fun W hW => by have := HNO.out w4 W p s9 hW; rw [← e1] at this; exact this
                  have y1 : ¬ kv < lo := by omega
                  have y2 : ¬ hg < kv := by omega
                  clear e1 e2 e3 hee
                  go_wp2_with fail
                  refine HC.out.mono ?_
                  rintro e w7 ⟨rfl, hs7⟩
                  have HS7 := hid_k hs7
                  clear hs7
                  go_wp2_with fail
                  refine (HNK.out w7 HS7.out).mono ?_
                  rintro e w8 ⟨rfl, hb8⟩
                  have HS8 := hid_k (HBE.out w4 w7 w8 p s9 HS7.out hb8)
                  clear hb8
                  go_wp2_with fail
                  refine (HRR.out w8 HS8.out).mono ?_
                  rintro e w9 ⟨rfl, hb9⟩
                  have HS9 := hid_k (HBE.out w4 w8 w9 p s9 HS8.out hb9)
                  clear hb9
                  have HLH := hid_k (stk_between HS9.out.1)
                  have HLO9 := hid_k HS9.out.1.low
                  have HHI9 := hid_k HS9.out.1.high
                  have HR9 := hid_k (HRA.out w4 w9 p s9 HS9.out)
                  obtain ⟨nw9, hnw9⟩ : ∃ x, s9.now = x := ⟨_, rfl⟩
                  obtain ⟨lo9, hlo9⟩ : ∃ x, lowK s9 = x := ⟨_, rfl⟩
                  obtain ⟨hi9, hhi9⟩ : ∃ x, highK s9 = x := ⟨_, rfl⟩
                  have HNN : Hid (∀ W, SkAt Rep w4 W p s9 → Calls Try.prog 9 #[.pointer (some ⟨p, 0, none⟩)] W fun e w' => e = .returned (.int .i64 nw9) ∧ Below W.heap.size W w') := fun W hW => by have := HNO.out w4 W p s9 hW; rw [hnw9] at this; exact this
                  rw [hlo9, hhi9] at HR9
                  have z1 : ¬ nw9 < lo9 := by have := HLH.out; omega
                  have z2 : ¬ hi9 < nw9 := by have := HLH.out; omega
                  have z3 : ¬ lo9 < 0 := by have := HLO9.out; omega
                  have z4 : ¬ (1000000 : Int) < hi9 := by have := HHI9.out; omega
                  clear hnw9 hlo9 hhi9 HLH HLO9 HHI9
                  go_wp2_with fail
                  refine HR9.out.mono ?_
                  rintro e wa ⟨rfl, hba⟩
                  have HSA := hid_k (HBE.out w4 w9 wa p s9 HS9.out hba)
                  have HNA := hid_k (HNN.out wa HSA.out)
                  clear hba
                  go_wp2_with fail
                  refine HNA.out.mono ?_
                  rintro e wb ⟨rfl, hbb⟩
                  have HSB := hid_k (HBE.out w4 wa wb p s9 HSA.out hbb)
                  have HNB := hid_k (HNN.out wb HSB.out)
                  clear hbb
                  go_wp2_with fail
                  refine HNB.out.mono ?_
                  rintro e wc ⟨rfl, hbc⟩
                  have HSC := hid_k (HBE.out w4 wb wc p s9 HSB.out hbc)
                  clear hbc
                  go_wp2_with fail
                  go_roundw
                  case rel => exact ⟨i + 1, s9, by omega, by go_num, HSC.out⟩
                  case measure => simp [intOf]; omega
                · obtain ⟨er, her⟩ : ∃ x, endE s x1 = x := ⟨_, rfl⟩
                  have HEE : Hid (errV er = .iface 39 (.int .i64 er)) := by show _ = _; unfold errV; rw [if_neg (by rw [← her]; exact hee)]
                  rw [her, HEE.out] at HC
                  clear hee her
                  go_wp2_with fail
                  refine HC.out.mono ?_
                  rintro e w7 ⟨rfl, hs7⟩
                  have HS7 := hid_k hs7
                  clear hs7
                  go_wp2_with fail
                  refine (HRR.out w7 HS7.out).mono ?_
                  rintro e w9 ⟨rfl, hb9⟩
                  have HS9 := hid_k (HBE.out w4 w7 w9 p s9 HS7.out hb9)
                  clear hb9
                  have HLH := hid_k (stk_between HS9.out.1)
                  have HLO9 := hid_k HS9.out.1.low
                  have HHI9 := hid_k HS9.out.1.high
                  have HR9 := hid_k (HRA.out w4 w9 p s9 HS9.out)
                  obtain ⟨nw9, hnw9⟩ : ∃ x, s9.now = x := ⟨_, rfl⟩
                  obtain ⟨lo9, hlo9⟩ : ∃ x, lowK s9 = x := ⟨_, rfl⟩
                  obtain ⟨hi9, hhi9⟩ : ∃ x, highK s9 = x := ⟨_, rfl⟩
                  have HNN : Hid (∀ W, SkAt Rep w4 W p s9 → Calls Try.prog 9 #[.pointer (some ⟨p, 0, none⟩)] W fun e w' => e = .returned (.int .i64 nw9) ∧ Below W.heap.size W w') := fun W hW => by have := HNO.out w4 W p s9 hW; rw [hnw9] at this; exact this
                  rw [hlo9, hhi9] at HR9
                  have z1 : ¬ nw9 < lo9 := by have := HLH.out; omega
                  have z2 : ¬ hi9 < nw9 := by have := HLH.out; omega
                  have z3 : ¬ lo9 < 0 := by have := HLO9.out; omega
                  have z4 : ¬ (1000000 : Int) < hi9 := by have := HHI9.out; omega
                  clear hnw9 hlo9 hhi9 HLH HLO9 HHI9
                  go_wp2_with fail
                  refine HR9.out.mono ?_
                  rintro e wa ⟨rfl, hba⟩
                  have HSA := hid_k (HBE.out w4 w9 wa p s9 HS9.out hba)
                  have HNA := hid_k (HNN.out wa HSA.out)
                  clear hba
                  go_wp2_with fail
                  refine HNA.out.mono ?_
                  rintro e wb ⟨rfl, hbb⟩
                  have HSB := hid_k (HBE.out w4 wa wb p s9 HSA.out hbb)
                  have HNB := hid_k (HNN.out wb HSB.out)
                  clear hbb
                  go_wp2_with fail
                  refine HNB.out.mono ?_
                  rintro e wc ⟨rfl, hbc⟩
                  have HSC := hid_k (HBE.out w4 wb wc p s9 HSB.out hbc)
                  clear hbc
                  go_wp2_with fail
                  go_roundw
                  case rel => exact ⟨i + 1, s9, by omega, by go_num, HSC.out⟩
                  case measure => simp [intOf]; omega
            · go_wp2_with fail
              refine HRG.out.mono ?_
              rintro e w6 ⟨rfl, hb6⟩
              have HS6 := hid_k (HBE.out w4 wr w6 p s HSR.out hb6)
              have b0 := (hb6.cell (p := ⟨A, 0, none⟩) hAw).trans a0
              have b1 := (hb6.cell (p := ⟨A, 1, none⟩) hAw).trans a1
              have b2 := (hb6.cell (p := ⟨A, 2, none⟩) hAw).trans a2
              have hA6 : A < w6.heap.size := World.block_lt_of_cell? w6 _ b0
              clear hb6 a0 a1 a2 hAw
              by_cases hx : x0 < 2
              · have HC := hid_k (HAS.out w4 w6 p s x1 x2 HS6.out)
                go_wp2_with fail
                refine HC.out.mono ?_
                rintro e w7 ⟨rfl, hs7⟩
                obtain ⟨s9, hs9⟩ : ∃ x, askS s x1 x2 = x := ⟨_, rfl⟩
                obtain ⟨nw, hnw⟩ : ∃ x, s.now = x := ⟨_, rfl⟩
                have HNW9 : Hid (s9.now = nw) := by show _ = _; rw [← hs9, ask_now]; exact hnw
                rw [hs9] at hs7
                have HS7 := hid_k hs7
                have HN7 : Hid (∀ W, SkAt Rep w4 W p s9 → Calls Try.prog 9 #[.pointer (some ⟨p, 0, none⟩)] W fun e w' => e = .returned (.int .i64 nw) ∧ Below W.heap.size W w') := fun W hW => by have := HNO.out w4 W p s9 hW; rw [HNW9.out] at this; exact this
                have y1 : ¬ nw < lo := by have := HBT.out; omega
                have y2 : ¬ hg < nw := by have := HBT.out; omega
                clear hs7 hs9 hnw
                go_wp2_with fail
                refine (HN7.out w7 HS7.out).mono ?_
                rintro e w8 ⟨rfl, hb8⟩
                have HS8 := hid_k (HBE.out w4 w7 w8 p s9 HS7.out hb8)
                clear hb8
                go_wp2_with fail
                refine (HN7.out w8 HS8.out).mono ?_
                rintro e w9 ⟨rfl, hb9⟩
                have HS9 := hid_k (HBE.out w4 w8 w9 p s9 HS8.out hb9)
                clear hb9
                have HLH := hid_k (stk_between HS9.out.1)
                have HLO9 := hid_k HS9.out.1.low
                have HHI9 := hid_k HS9.out.1.high
                have HR9 := hid_k (HRA.out w4 w9 p s9 HS9.out)
                obtain ⟨nw9, hnw9⟩ : ∃ x, s9.now = x := ⟨_, rfl⟩
                obtain ⟨lo9, hlo9⟩ : ∃ x, lowK s9 = x := ⟨_, rfl⟩
                obtain ⟨hi9, hhi9⟩ : ∃ x, highK s9 = x := ⟨_, rfl⟩
                have HNN : Hid (∀ W, SkAt Rep w4 W p s9 → Calls Try.prog 9 #[.pointer (some ⟨p, 0, none⟩)] W fun e w' => e = .returned (.int .i64 nw9) ∧ Below W.heap.size W w') := fun W hW => by have := HNO.out w4 W p s9 hW; rw [hnw9] at this; exact this
                rw [hlo9, hhi9] at HR9
                have z1 : ¬ nw9 < lo9 := by have := HLH.out; omega
                have z2 : ¬ hi9 < nw9 := by have := HLH.out; omega
                have z3 : ¬ lo9 < 0 := by have := HLO9.out; omega
                have z4 : ¬ (1000000 : Int) < hi9 := by have := HHI9.out; omega
                clear hnw9 hlo9 hhi9 HLH HLO9 HHI9
                go_wp2_with fail
                refine HR9.out.mono ?_
                rintro e wa ⟨rfl, hba⟩
                have HSA := hid_k (HBE.out w4 w9 wa p s9 HS9.out hba)
                have HNA := hid_k (HNN.out wa HSA.out)
                clear hba
                go_wp2_with fail
                refine HNA.out.mono ?_
                rintro e wb ⟨rfl, hbb⟩
                have HSB := hid_k (HBE.out w4 wa wb p s9 HSA.out hbb)
                have HNB := hid_k (HNN.out wb HSB.out)
                clear hbb
                go_wp2_with fail
                refine HNB.out.mono ?_
                rintro e wc ⟨rfl, hbc⟩
                have HSC := hid_k (HBE.out w4 wb wc p s9 HSB.out hbc)
                clear hbc
                go_wp2_with fail
                go_roundw
                case rel => exact ⟨i + 1, s9, by omega, by go_num, HSC.out⟩
                case measure => simp [intOf]; omega
              · have HC := hid_k (HEN.out w4 w6 p s x1 (x0 == 2) HS6.out)
                have HEB := hid_k (end_between HS6.out.1 x1 (x0 == 2))
                obtain ⟨s9, hs9⟩ : ∃ x, endS s x1 (x0 == 2) = x := ⟨_, rfl⟩
                obtain ⟨kv, hkv⟩ : ∃ x, endV s x1 (x0 == 2) = x := ⟨_, rfl⟩
                rw [hs9, hkv] at HC
                rw [hs9, hkv, HLO.out, HHG.out] at HEB
                have HRR : Hid (∀ W, SkAt Rep w4 W p s9 → Calls Try.prog 8 #[.pointer (some ⟨p, 0, none⟩)] W fun e w' => e = .returned (.tuple #[.int .i64 (lowK s9), .int .i64 (highK s9)]) ∧ Below W.heap.size W w') := fun W hW => HRA.out w4 W p s9 hW
                obtain ⟨lo8, hlo8⟩ : ∃ x, lowK s9 = x := ⟨_, rfl⟩
                obtain ⟨hi8, hhi8⟩ : ∃ x, highK s9 = x := ⟨_, rfl⟩
                rw [hlo8, hhi8] at HRR HEB
                have y3 : ¬ lo8 < lo := by have := HEB.out.1; omega
                have y4 : ¬ hg < hi8 := by have := HEB.out.2.1; omega
                clear hs9 hkv hlo8 hhi8
                by_cases hee : endE s x1 = 0
                · obtain ⟨e1, e2, e3⟩ := HEB.out.2.2 hee
                  rw [hee, HEV.out] at HC
                  have HNK : Hid (∀ W, SkAt Rep w4 W p s9 → Calls Try.prog 9 #[.pointer (some ⟨p, 0, none⟩)] W fun e w' => e = .returned (.int .i64 kv) ∧ Below W.heap.size W w') := fun W hW => by have := HNO.out w4 W p s9 hW; rw [← e1] at this; exact this
                  have y1 : ¬ kv < lo := by omega
                  have y2 : ¬ hg < kv := by omega
                  clear e1 e2 e3 hee
                  go_wp2_with fail
                  refine HC.out.mono ?_
                  rintro e w7 ⟨rfl, hs7⟩
                  have HS7 := hid_k hs7
                  clear hs7
                  go_wp2_with fail
                  refine (HNK.out w7 HS7.out).mono ?_
                  rintro e w8 ⟨rfl, hb8⟩
                  have HS8 := hid_k (HBE.out w4 w7 w8 p s9 HS7.out hb8)
                  clear hb8
                  go_wp2_with fail
                  refine (HRR.out w8 HS8.out).mono ?_
                  rintro e w9 ⟨rfl, hb9⟩
                  have HS9 := hid_k (HBE.out w4 w8 w9 p s9 HS8.out hb9)
                  clear hb9
                  have HLH := hid_k (stk_between HS9.out.1)
                  have HLO9 := hid_k HS9.out.1.low
                  have HHI9 := hid_k HS9.out.1.high
                  have HR9 := hid_k (HRA.out w4 w9 p s9 HS9.out)
                  obtain ⟨nw9, hnw9⟩ : ∃ x, s9.now = x := ⟨_, rfl⟩
                  obtain ⟨lo9, hlo9⟩ : ∃ x, lowK s9 = x := ⟨_, rfl⟩
                  obtain ⟨hi9, hhi9⟩ : ∃ x, highK s9 = x := ⟨_, rfl⟩
                  have HNN : Hid (∀ W, SkAt Rep w4 W p s9 → Calls Try.prog 9 #[.pointer (some ⟨p, 0, none⟩)] W fun e w' => e = .returned (.int .i64 nw9) ∧ Below W.heap.size W w') := fun W hW => by have := HNO.out w4 W p s9 hW; rw [hnw9] at this; exact this
                  rw [hlo9, hhi9] at HR9
                  have z1 : ¬ nw9 < lo9 := by have := HLH.out; omega
                  have z2 : ¬ hi9 < nw9 := by have := HLH.out; omega
                  have z3 : ¬ lo9 < 0 := by have := HLO9.out; omega
                  have z4 : ¬ (1000000 : Int) < hi9 := by have := HHI9.out; omega
                  clear hnw9 hlo9 hhi9 HLH HLO9 HHI9
                  go_wp2_with fail
                  refine HR9.out.mono ?_
                  rintro e wa ⟨rfl, hba⟩
                  have HSA := hid_k (HBE.out w4 w9 wa p s9 HS9.out hba)
                  have HNA := hid_k (HNN.out wa HSA.out)
                  clear hba
                  go_wp2_with fail
                  refine HNA.out.mono ?_
                  rintro e wb ⟨rfl, hbb⟩
                  have HSB := hid_k (HBE.out w4 wa wb p s9 HSA.out hbb)
                  have HNB := hid_k (HNN.out wb HSB.out)
                  clear hbb
                  go_wp2_with fail
                  refine HNB.out.mono ?_
                  rintro e wc ⟨rfl, hbc⟩
                  have HSC := hid_k (HBE.out w4 wb wc p s9 HSB.out hbc)
                  clear hbc
                  go_wp2_with fail
                  go_roundw
                  case rel => exact ⟨i + 1, s9, by omega, by go_num, HSC.out⟩
                  case measure => simp [intOf]; omega
                · obtain ⟨er, her⟩ : ∃ x, endE s x1 = x := ⟨_, rfl⟩
                  have HEE : Hid (errV er = .iface 39 (.int .i64 er)) := by show _ = _; unfold errV; rw [if_neg (by rw [← her]; exact hee)]
                  rw [her, HEE.out] at HC
                  clear hee her
                  go_wp2_with fail
                  refine HC.out.mono ?_
                  rintro e w7 ⟨rfl, hs7⟩
                  have HS7 := hid_k hs7
                  clear hs7
                  go_wp2_with fail
                  refine (HRR.out w7 HS7.out).mono ?_
                  rintro e w9 ⟨rfl, hb9⟩
                  have HS9 := hid_k (HBE.out w4 w7 w9 p s9 HS7.out hb9)
                  clear hb9
                  have HLH := hid_k (stk_between HS9.out.1)
                  have HLO9 := hid_k HS9.out.1.low
                  have HHI9 := hid_k HS9.out.1.high
                  have HR9 := hid_k (HRA.out w4 w9 p s9 HS9.out)
                  obtain ⟨nw9, hnw9⟩ : ∃ x, s9.now = x := ⟨_, rfl⟩
                  obtain ⟨lo9, hlo9⟩ : ∃ x, lowK s9 = x := ⟨_, rfl⟩
                  obtain ⟨hi9, hhi9⟩ : ∃ x, highK s9 = x := ⟨_, rfl⟩
                  have HNN : Hid (∀ W, SkAt Rep w4 W p s9 → Calls Try.prog 9 #[.pointer (some ⟨p, 0, none⟩)] W fun e w' => e = .returned (.int .i64 nw9) ∧ Below W.heap.size W w') := fun W hW => by have := HNO.out w4 W p s9 hW; rw [hnw9] at this; exact this
                  rw [hlo9, hhi9] at HR9
                  have z1 : ¬ nw9 < lo9 := by have := HLH.out; omega
                  have z2 : ¬ hi9 < nw9 := by have := HLH.out; omega
                  have z3 : ¬ lo9 < 0 := by have := HLO9.out; omega
                  have z4 : ¬ (1000000 : Int) < hi9 := by have := HHI9.out; omega
                  clear hnw9 hlo9 hhi9 HLH HLO9 HHI9
                  go_wp2_with fail
                  refine HR9.out.mono ?_
                  rintro e wa ⟨rfl, hba⟩
                  have HSA := hid_k (HBE.out w4 w9 wa p s9 HS9.out hba)
                  have HNA := hid_k (HNN.out wa HSA.out)
                  clear hba
                  go_wp2_with fail
                  refine HNA.out.mono ?_
                  rintro e wb ⟨rfl, hbb⟩
                  have HSB := hid_k (HBE.out w4 wa wb p s9 HSA.out hbb)
                  have HNB := hid_k (HNN.out wb HSB.out)
                  clear hbb
                  go_wp2_with fail
                  refine HNB.out.mono ?_
                  rintro e wc ⟨rfl, hbc⟩
                  have HSC := hid_k (HBE.out w4 wb wc p s9 HSB.out hbc)
                  clear hbc
                  go_wp2_with fail
                  go_roundw
                  case rel => exact ⟨i + 1, s9, by omega, by go_num, HSC.out⟩
                  case measure => simp [intOf]; omega
      · have hnd : ¬ ((i : Int) < (len : Int)) ∨ ((i : Int) < (len : Int) ∧ ¬ (i : Int) < 80) := by omega
        rcases hnd with g1 | ⟨g1, g2⟩
        · go_wp2_with fail
          go_loopw [24] (fun v24 wr => ∃ (k : Nat) (s : Stk), k ≤ 6 ∧ v24 = .int .i64 ((k : Int) + 1) ∧ LeftK s k ∧ SkAt Rep w4 wr p s) (fun v24 _ => 7 - (intOf v24).toNat)
          case atStart => exact ⟨0, s, by omega, rfl, ⟨fun t h1 h2 => by omega⟩, HS.out⟩
          case round =>
            clear HS HBW
            obtain ⟨k, s, hk, rfl, hlf, hs⟩ := hrel
            have HS := hid_k hs
            have HLF := hid_k hlf
            clear hs hlf
            by_cases hk6 : k < 6
            · have hk6' : (k : Int) + 1 ≤ 6 := by omega
              have HC : Hid (∀ c, Calls Try.prog 7 #[.pointer (some ⟨p, 0, none⟩), .int .i64 ((k : Int) + 1), .bool c] wr fun e w' => e = .returned (.tuple #[.int .i64 (endV s ((k : Int) + 1) c), errV (endE s ((k : Int) + 1))]) ∧ SkAt Rep w4 w' p (endS s ((k : Int) + 1) c)) := fun c => HEN.out w4 wr p s _ c HS.out
              go_wp2_with fail
              refine (HC.out _).mono ?_
              rintro e w6 ⟨rfl, hs6⟩
              have HS6 := hid_k hs6
              clear hs6
              go_wp2_with fail
              go_roundw
              case rel => exact ⟨k + 1, _, by omega, by go_num, HLF.out.step hk6 _, HS6.out⟩
              case measure => simp [intOf]; omega
            · have hk6' : ¬ (k : Int) + 1 ≤ 6 := by omega
              obtain rfl : k = 6 := by omega
              have hnl := none_left fun t h1 h6 => HLF.out.none t h1 h6
              have HRG := hid_k (HRA.out w4 wr p s HS.out)
              rw [hnl.1, hnl.2] at HRG
              obtain ⟨nw, hnw⟩ : ∃ x, s.now = x := ⟨_, rfl⟩
              have HNN : Hid (∀ W, SkAt Rep w4 W p s → Calls Try.prog 9 #[.pointer (some ⟨p, 0, none⟩)] W fun e w' => e = .returned (.int .i64 nw) ∧ Below W.heap.size W w') := fun W hW => by have := HNO.out w4 W p s hW; rw [hnw] at this; exact this
              rw [hnw] at HRG
              clear hnl hnw
              go_wp2_with fail
              refine HRG.out.mono ?_
              rintro e w6 ⟨rfl, hb6⟩
              have HS6 := hid_k (HBE.out w4 wr w6 p s HS.out hb6)
              clear hb6
              go_wp2_with fail
              refine (HNN.out w6 HS6.out).mono ?_
              rintro e w7 ⟨rfl, hb7⟩
              have HS7 := hid_k (HBE.out w4 w6 w7 p s HS6.out hb7)
              clear hb7
              go_wp2_with fail
              refine (HNN.out w7 HS7.out).mono ?_
              rintro e w8 ⟨rfl, hb8⟩
              have HS8 := hid_k (HBE.out w4 w7 w8 p s HS7.out hb8)
              clear hb8
              go_wp2_with fail
              go_ret
              exact ⟨by simp, HB4.out.trans (HS8.out.2.1.mono HB4.out.size)⟩
        · go_wp2_with fail
          go_loopw [24] (fun v24 wr => ∃ (k : Nat) (s : Stk), k ≤ 6 ∧ v24 = .int .i64 ((k : Int) + 1) ∧ LeftK s k ∧ SkAt Rep w4 wr p s) (fun v24 _ => 7 - (intOf v24).toNat)
          case atStart => exact ⟨0, s, by omega, rfl, ⟨fun t h1 h2 => by omega⟩, HS.out⟩
          case round =>
            clear HS HBW
            obtain ⟨k, s, hk, rfl, hlf, hs⟩ := hrel
            have HS := hid_k hs
            have HLF := hid_k hlf
            clear hs hlf
            by_cases hk6 : k < 6
            · have hk6' : (k : Int) + 1 ≤ 6 := by omega
              have HC : Hid (∀ c, Calls Try.prog 7 #[.pointer (some ⟨p, 0, none⟩), .int .i64 ((k : Int) + 1), .bool c] wr fun e w' => e = .returned (.tuple #[.int .i64 (endV s ((k : Int) + 1) c), errV (endE s ((k : Int) + 1))]) ∧ SkAt Rep w4 w' p (endS s ((k : Int) + 1) c)) := fun c => HEN.out w4 wr p s _ c HS.out
              go_wp2_with fail
              refine (HC.out _).mono ?_
              rintro e w6 ⟨rfl, hs6⟩
              have HS6 := hid_k hs6
              clear hs6
              go_wp2_with fail
              go_roundw
              case rel => exact ⟨k + 1, _, by omega, by go_num, HLF.out.step hk6 _, HS6.out⟩
              case measure => simp [intOf]; omega
            · have hk6' : ¬ (k : Int) + 1 ≤ 6 := by omega
              obtain rfl : k = 6 := by omega
              have hnl := none_left fun t h1 h6 => HLF.out.none t h1 h6
              have HRG := hid_k (HRA.out w4 wr p s HS.out)
              rw [hnl.1, hnl.2] at HRG
              obtain ⟨nw, hnw⟩ : ∃ x, s.now = x := ⟨_, rfl⟩
              have HNN : Hid (∀ W, SkAt Rep w4 W p s → Calls Try.prog 9 #[.pointer (some ⟨p, 0, none⟩)] W fun e w' => e = .returned (.int .i64 nw) ∧ Below W.heap.size W w') := fun W hW => by have := HNO.out w4 W p s hW; rw [hnw] at this; exact this
              rw [hnw] at HRG
              clear hnl hnw
              go_wp2_with fail
              refine HRG.out.mono ?_
              rintro e w6 ⟨rfl, hb6⟩
              have HS6 := hid_k (HBE.out w4 wr w6 p s HS.out hb6)
              clear hb6
              go_wp2_with fail
              refine (HNN.out w6 HS6.out).mono ?_
              rintro e w7 ⟨rfl, hb7⟩
              have HS7 := hid_k (HBE.out w4 w6 w7 p s HS6.out hb7)
              clear hb7
              go_wp2_with fail
              refine (HNN.out w7 HS7.out).mono ?_
              rintro e w8 ⟨rfl, hb8⟩
              have HS8 := hid_k (HBE.out w4 w7 w8 p s HS7.out hb8)
              clear hb8
              go_wp2_with fail
              go_ret
              exact ⟨by simp, HB4.out.trans (HS8.out.2.1.mono HB4.out.size)⟩
end Go.Proofs.Ytaodbljpihcjnaa
