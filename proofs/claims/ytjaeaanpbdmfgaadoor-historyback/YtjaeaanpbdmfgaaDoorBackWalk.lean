/-
  PROVED HERE: lanelaw1.HistoryBack returns true, whatever the list of ops, the text and the number; old memory stays as it was.
  Conditions: none.
-/
import Derived.Test.YtjaeaanpbdmfgaaDoorParse
import Derived.Test.YtjaeaanpbdmfgaaDoorPrint
import Derived.Test.YtjaeaanpbdmfgaaDoorBack
import Derived.Test.YtjaeaanpbdmfgaaDoorSame
namespace Go.Proofs.YtjaeaanpbdmfgaaDoor
open Go.RowKit Go.PlainAid

def factT : List UInt8 := [114, 49, 40, 97, 41, 32, 119, 50, 40, 98, 41, 32, 99, 50]
theorem fact_parse : parseT factT = some [(1, 1, 1), (2, 2, 2), (2, 3, 0)] := by decide
theorem fact_right : (chk (List.take 41 [(1, 1, 1), (2, 2, 2), (2, 3, 0)])).2 = 0 := by decide
theorem parse_fact (w : World) :
    Calls Tryd.prog 23 #[.string ⟨#[114, 49, 40, 97, 41, 32, 119, 50, 40, 98, 41, 32, 99, 50]⟩] w fun e w' => ∃ b off cap, e = .returned (.tuple #[.slice (some ⟨b, off, none⟩) 3 cap, .nilIface]) ∧ w'.cell? ⟨b, off + 2, none⟩ = some (.int .i64 1) ∧ w'.cell? ⟨b, off + 3 + 1, none⟩ = some (.int .i64 2) ∧ w'.cell? ⟨b, off + 6, none⟩ = some (.int .i64 2) ∧ Below w.heap.size w w' := by
  refine (parse_ok factT _ w (by decide) fact_parse fact_right).mono ?_
  rintro e w' ⟨v, rfl, ⟨ad, b, off, cap, rfl, ha, _, _, hops⟩, hb⟩
  obtain rfl := ha (by decide)
  have h0 := (hops 0 (by decide)).2.2
  have h1 := (hops 1 (by decide)).2.1
  have h2 := (hops 2 (by decide)).1
  exact ⟨b, off, cap, rfl, by simpa using h0, by simpa using h1, by simpa using h2, hb⟩
/-- Parse, in one word: a right list whose text it is, or an error. -/
theorem parse_any (l : List UInt8) (w : World) (hs : l.length ≤ 9223372036854775807) :
    Calls Tryd.prog 23 #[.string ⟨l.toArray⟩] w fun e w' => ∃ v err, e = .returned (.tuple #[v, err]) ∧ ((err = .nilIface ∧ ∃ ds, IsOps w' v ds ∧ (chk ds).2 = 0 ∧ txtL ds = l) ∨ ∃ n : Int, err = .iface 67 (.int .i64 n)) ∧ Below w.heap.size w w' := by
  cases hp : parseT l with
  | none =>
    refine (parse_formless l w hs hp).mono ?_
    rintro e w' ⟨rfl, hb⟩
    exact ⟨_, _, rfl, .inr ⟨_, rfl⟩, hb⟩
  | some ds =>
    by_cases hc : (chk (ds.take 41)).2 = 0
    · refine (parse_ok l ds w hs hp hc).mono ?_
      rintro e w' ⟨v, rfl, hI, hb⟩
      rw [take_all hc] at hc
      exact ⟨_, _, rfl, .inl ⟨rfl, ds, hI, hc, parse_back l ds hp (chk_ops hc)⟩, hb⟩
    · refine (parse_bad l ds w hs hp hc).mono ?_
      rintro e w' ⟨rfl, hb⟩
      exact ⟨_, _, rfl, .inr ⟨_, rfl⟩, hb⟩
theorem isOps_take {w : World} {ad : Option Addr} {b off cap n : Nat} {l : List Op3} (ha : 0 < l.length → ad = some ⟨b, off, none⟩) (hn : ad = none → l.length = 0 ∧ cap = 0) (hbB : b < w.heap.size ∨ l = []) (hops : OpsAt w b off l) (h : n ≤ l.length) : IsOps w (.slice ad n cap) (l.take n) := by
  have hl : (l.take n).length = n := by rw [List.length_take]; omega
  refine ⟨ad, b, off, cap, by rw [hl], fun h0 => ha (by omega), fun h0 => ⟨by have := (hn h0).1; omega, (hn h0).2⟩, ?_, fun i hi => ?_⟩
  · rcases hbB with h | h
    · exact .inl h
    · exact .inr (by rw [h]; simp)
  · have := hops i (by omega)
    have hg : (l.take n).getD i (0, 0, 0) = l.getD i (0, 0, 0) := by
      simp [List.getD, show i < n by omega]
    rw [hg]
    exact this

set_option maxHeartbeats 16000000 in
set_option maxRecDepth 100000 in
theorem back_walk (h : List Op3) (ad : Option Addr) (b off cap : Nat) (tl : List UInt8) (cut : Int) (w : World) (hts : tl.length ≤ 9223372036854775807) (ha : 0 < h.length → ad = some ⟨b, off, none⟩) (hn : ad = none → h.length = 0 ∧ cap = 0) (hcap : h.length ≤ cap) (hbB : b < w.heap.size ∨ h = []) (hops : OpsAt w b off h) :
    Calls Tryd.prog 4 #[.slice ad h.length cap, .string ⟨tl.toArray⟩, .int .i64 cut] w fun e w' => e = .returned (.bool true) ∧ Below w.heap.size w w' := by
  have hI0 : IsOps w (.slice ad h.length cap) h := ⟨ad, b, off, cap, rfl, ha, hn, hbB, hops⟩
  have HA : Hid ((0 < h.length → ad = some ⟨b, off, none⟩) ∧ (ad = none → h.length = 0 ∧ cap = 0) ∧ (b < w.heap.size ∨ h = []) ∧ OpsAt w b off h) := ⟨ha, hn, hbB, hops⟩
  have HI0 : Hid (IsOps w (.slice ad h.length cap) h) := hI0
  clear hI0 ha hn hbB hops
  go_enter Tryd.func4, Tryd.ntmps4
  go_wp2_with fail
  refine (parse_fact _).mono ?_
  rintro e w1 ⟨b1, off1, cap1, rfl, c1, c2, c3, hb1⟩
  go_wp2_with fail
  refine (parse_any tl _ hts).mono ?_
  rintro e w2 ⟨v2, err, rfl, hcase, hb2⟩
  have B2 := hb1.trans (hb2.mono hb1.size)
  clear c1 c2 c3 hb1
  rcases hcase with ⟨rfl, ds, hI2, hc2, htx⟩ | ⟨n2, rfl⟩
  · go_wp2_with fail
    refine (print_ok ds v2 _ hI2 hc2).mono ?_
    rintro e w3 ⟨rfl, hb3⟩
    rw [htx]
    have B3 := B2.trans (hb3.mono B2.size)
    clear hI2 hc2 htx hb2 hb3 B2
    go_wp2_with fail
    by_cases hc : (chk h).2 = 0
    · have hl40 := chk_len hc
      have HC : Hid ((chk h).2 = 0) := hc
      clear hc
      refine (print_ok h _ _ (HI0.out.below B3 (Nat.le_refl _)) HC.out).mono ?_
      rintro e w4 ⟨rfl, hb4⟩
      have B4 := B3.trans (hb4.mono B3.size)
      clear hb4 B3
      go_wp2_with fail
      refine (parse_ok (txtL h) h _ (by have := txtL_len h; omega) (parse_txt h (chk_ops HC.out)) (by rw [List.take_of_length_le (by omega)]; exact HC.out)).mono ?_
      rintro e w5 ⟨v5, rfl, hI5, hb5⟩
      have B5 := B4.trans (hb5.mono B4.size)
      clear hb5 B4
      go_wp2_with fail
      refine (done_ok h _ _ (HI0.out.below B5 (Nat.le_refl _)) HC.out).mono ?_
      rintro e w6 ⟨v6, rfl, hI6, hb6⟩
      have B6 := B5.trans (hb6.mono B5.size)
      have hI5' := hI5.below hb6 (Nat.le_refl _)
      clear hb6 B5 hI5
      go_wp2_with fail
      refine (done_ok (doneL h) _ _ hI6 (chk_done HC.out)).mono ?_
      rintro e w7 ⟨v7, rfl, hI7, hb7⟩
      rw [done_done] at hI7
      have B7 := B6.trans (hb7.mono B6.size)
      have HI5 : Hid (IsOps w7 v5 h) := hI5'.below hb7 (Nat.le_refl _)
      have HI6 : Hid (IsOps w7 v6 (doneL h)) := hI6.below hb7 (Nat.le_refl _)
      have HI7 : Hid (IsOps w7 v7 (doneL h)) := hI7
      have HDL : Hid ((doneL h).length ≤ 140737488351) := by
        have := chk_len (chk_done HC.out)
        show (doneL h).length ≤ 140737488351; omega
      clear hb7 B6 hI6 hI7 hI5'
      go_wp2_with fail
      refine (same_ops h v5 _ _ HI5.out (HI0.out.below B7 (Nat.le_refl _)) (by omega)).mono ?_
      rintro e w8 ⟨rfl, hb8⟩
      have B8 := B7.trans (hb8.mono B7.size)
      have HI6' : Hid (IsOps w8 v6 (doneL h)) := HI6.out.below hb8 (Nat.le_refl _)
      have HI7' : Hid (IsOps w8 v7 (doneL h)) := HI7.out.below hb8 (Nat.le_refl _)
      clear hb8 B7 HI5 HI6 HI7
      go_wp2_with fail
      refine (same_ops (doneL h) v6 v7 _ HI6'.out HI7'.out HDL.out).mono ?_
      rintro e w9 ⟨rfl, hb9⟩
      have B9 := B8.trans (hb9.mono B8.size)
      clear hb9 B8 HI6' HI7' HDL
      go_wp2_with fail
      refine (deals_ok h _ _ (HI0.out.below B9 (Nat.le_refl _)) HC.out).mono ?_
      rintro e w10 ⟨v10, rfl, hI10, hb10⟩
      have B10 := B9.trans (hb10.mono B9.size)
      obtain ⟨ad10, b10, off10, cap10, rfl, ha10, _, hbB10, hc10⟩ := hI10
      have HJ : Hid ((0 < (dealsL h).length → ad10 = some ⟨b10, off10, none⟩) ∧ (b10 < w10.heap.size ∨ dealsL h = []) ∧ ∀ i, i < (dealsL h).length → w10.cell? ⟨b10, off10 + i, none⟩ = some (.int .i64 ((dealsL h).getD i 0))) := ⟨ha10, hbB10, hc10⟩
      clear hb10 B9 ha10 hbB10 hc10
      obtain ⟨dn, hdn⟩ : ∃ n, (dealsL h).length = n := ⟨_, rfl⟩
      have HDN : Hid ((dealsL h).length = dn) := hdn
      have hdn6 : dn ≤ 6 := by have := dealsTo_len h 6; rw [← hdn]; exact this
      rw [hdn]
      clear hdn
      go_wp2_with fail
      go_loopw [20, 21] (fun v20 v21 wr => ∃ k : Nat, k ≤ dn ∧ v21 = .int .i64 k ∧ v20 = .int .i64 (sumL h ((dealsL h).take k)) ∧ Below w10.heap.size w10 wr) (fun _ v21 _ => dn - (intOf v21).toNat)
      case atStart => exact ⟨0, Nat.zero_le _, rfl, rfl, Below.refl _ _⟩
      case round =>
        obtain ⟨k, hk, rfl, rfl, hbel⟩ := hrel
        have hsb := sum_take_le HC.out k
        obtain ⟨sk, hsk⟩ : ∃ n, sumL h ((dealsL h).take k) = n := ⟨_, rfl⟩
        have HSK : Hid (sumL h ((dealsL h).take k) = sk) := hsk
        rw [hsk] at hsb ⊢
        clear hsk
        have B11 := B10.trans (hbel.mono B10.size)
        by_cases hlt : k < dn
        · have hltd : k < (dealsL h).length := by rw [HDN.out]; exact hlt
          obtain rfl := HJ.out.1 (by omega)
          have hb10 : b10 < w10.heap.size := by
            rcases HJ.out.2.1 with h' | h'
            · exact h'
            · rw [h'] at hltd; simp at hltd
          obtain ⟨tx, htx⟩ : ∃ x, (dealsL h).getD k 0 = x := ⟨_, rfl⟩
          have hcx : wr.cell? ⟨b10, off10 + k, none⟩ = some (.int .i64 tx) := by
            rw [hbel.cell (p := ⟨b10, off10 + k, none⟩) hb10, ← htx]; exact HJ.out.2.2 k hltd
          have hmem : tx ∈ dealsL h := by rw [← htx]; simp [List.getD, List.getElem?_eq_getElem hltd]
          obtain ⟨ht1, ht6, hhas⟩ := dealsTo_mem h 6 tx hmem
          have hpos := of_some hhas
          obtain ⟨m, hm⟩ : ∃ m, (ofL h tx).length = m := ⟨_, rfl⟩
          have HM : Hid ((ofL h tx).length = m) := hm
          rw [hm] at hpos
          have hm40 : m ≤ 40 := by
            have : (ofL h tx).length ≤ h.length := List.length_filter_le _ _
            omega
          have HNX : Hid (sumL h ((dealsL h).take (k + 1)) = sk + m) := by
            show sumL h ((dealsL h).take (k + 1)) = sk + m
            rw [List.take_succ_eq_append_getElem hltd, sumL_append, HSK.out]
            have e : (dealsL h)[k] = tx := by rw [← htx]; simp [List.getD, List.getElem?_eq_getElem hltd]
            rw [e]
            simp [sumL, hm]
          have HPV : Hid (0 < k → wr.cell? ⟨b10, off10 + (k - 1), none⟩ = some (.int .i64 ((dealsL h).getD (k - 1) 0)) ∧ (dealsL h).getD (k - 1) 0 < tx) := by
            intro hk0
            refine ⟨?_, ?_⟩
            · rw [hbel.cell (p := ⟨b10, off10 + (k - 1), none⟩) hb10]; exact HJ.out.2.2 (k - 1) (by omega)
            · have hp := List.pairwise_iff_getElem.1 (dealsTo_rise h 6) (k - 1) k (by show k - 1 < (dealsL h).length; omega) hltd (by omega)
              have e1 : (dealsL h).getD (k - 1) 0 = (dealsL h)[k - 1]'(by omega) := by simp [List.getD, List.getElem?_eq_getElem (show k - 1 < (dealsL h).length by omega)]
              have e2 : tx = (dealsL h)[k] := by rw [← htx]; simp [List.getD, List.getElem?_eq_getElem hltd]
              rw [e1, e2]; exact hp
          have hm0 : ((m : Int) == 0) = false := by simp; omega
          clear htx hmem hhas hm
          go_wp2_with fail
          refine (of_ok h _ tx _ (HI0.out.below B11 (Nat.le_refl _)) HC.out (by omega) (by omega)).mono ?_
          rintro e w12 ⟨v12, rfl, hI12, hb12⟩
          obtain ⟨ad12, b12, off12, cap12, rfl, _, _, _, _⟩ := hI12
          rw [HM.out]
          have hB12 := hbel.trans (hb12.mono hbel.size)
          have hcx12 : w12.cell? ⟨b10, off10 + k, none⟩ = some (.int .i64 tx) := by
            have := hbel.size
            rw [hb12.cell (p := ⟨b10, off10 + k, none⟩) (by simp; omega)]; exact hcx
          have hsz12 := hb12.size
          by_cases hk0 : 0 < k
          · obtain ⟨hp1, hp2⟩ := HPV.out hk0
            obtain ⟨ty, hty⟩ : ∃ y, (dealsL h).getD (k - 1) 0 = y := ⟨_, rfl⟩
            rw [hty] at hp1 hp2
            have hcy12 : w12.cell? ⟨b10, off10 + (k - 1), none⟩ = some (.int .i64 ty) := by
              have := hbel.size
              rw [hb12.cell (p := ⟨b10, off10 + (k - 1), none⟩) (by simp; omega)]; exact hp1
            clear hty hp1 hcx HPV hbel hb12
            have hk0' : (0 : Int) < (k : Int) := by omega
            have hlt' : (k : Int) < (dn : Int) := by omega
            go_wp2_with fail
            go_quiet (fail)
            go_wp2
            go_roundw
            case rel => exact ⟨k + 1, by omega, by go_num, by rw [HNX.out]; simp, below_drewN hB12 _⟩
            case measure => simp [intOf]; omega
          · have hk0' : decide ((0 : Int) < (k : Int)) = false := by simp; omega
            clear hcx HPV hbel hb12
            go_wp2_with fail
            go_quiet (fail)
            go_wp2
            go_roundw
            case rel => exact ⟨k + 1, by omega, by go_num, by rw [HNX.out]; simp, below_drewN hB12 _⟩
            case measure => simp [intOf]; omega
        · have hskh : sk = h.length := by
            rw [← HSK.out, List.take_of_length_le (by rw [HDN.out]; omega)]
            exact sum_all HC.out
          subst hskh
          clear HSK hsb
          by_cases hc0 : cut < 0
          · go_wp2
            go_ret
            exact ⟨rfl, B11⟩
          · by_cases hc1 : (h.length : Int) < cut
            · go_wp2
              go_ret
              exact ⟨rfl, B11⟩
            · obtain ⟨cn, hcn⟩ : ∃ n : Nat, cut = n := ⟨cut.toNat, by omega⟩
              subst hcn
              have hcn1 : cn ≤ h.length := by omega
              have hcn2 : cn ≤ cap := by omega
              have HT : Hid (IsOps wr (.slice ad cn cap) (h.take cn)) := isOps_take HA.out.1 HA.out.2.1 (by rcases HA.out.2.2.1 with h' | h'; exact .inl (by have := B11.size; omega); exact .inr h') (HA.out.2.2.2.below B11 HA.out.2.2.1) hcn1
              go_wp2_with fail
              refine (check_ok (h.take cn) _ _ HT.out (chk_take HC.out cn)).mono ?_
              rintro e w13 ⟨rfl, hb13⟩
              go_wp2
              go_ret
              exact ⟨rfl, B11.trans (hb13.mono B11.size)⟩
    · refine (print_bad h _ _ (HI0.out.below B3 (Nat.le_refl _)) hc).mono ?_
      rintro e w4 ⟨rfl, hb4⟩
      go_wp2
      go_ret
      exact ⟨rfl, B3.trans (hb4.mono B3.size)⟩
  · have B3 := B2
    clear hb2 B2
    go_wp2_with fail
    by_cases hc : (chk h).2 = 0
    · have hl40 := chk_len hc
      have HC : Hid ((chk h).2 = 0) := hc
      clear hc
      refine (print_ok h _ _ (HI0.out.below B3 (Nat.le_refl _)) HC.out).mono ?_
      rintro e w4 ⟨rfl, hb4⟩
      have B4 := B3.trans (hb4.mono B3.size)
      clear hb4 B3
      go_wp2_with fail
      refine (parse_ok (txtL h) h _ (by have := txtL_len h; omega) (parse_txt h (chk_ops HC.out)) (by rw [List.take_of_length_le (by omega)]; exact HC.out)).mono ?_
      rintro e w5 ⟨v5, rfl, hI5, hb5⟩
      have B5 := B4.trans (hb5.mono B4.size)
      clear hb5 B4
      go_wp2_with fail
      refine (done_ok h _ _ (HI0.out.below B5 (Nat.le_refl _)) HC.out).mono ?_
      rintro e w6 ⟨v6, rfl, hI6, hb6⟩
      have B6 := B5.trans (hb6.mono B5.size)
      have hI5' := hI5.below hb6 (Nat.le_refl _)
      clear hb6 B5 hI5
      go_wp2_with fail
      refine (done_ok (doneL h) _ _ hI6 (chk_done HC.out)).mono ?_
      rintro e w7 ⟨v7, rfl, hI7, hb7⟩
      rw [done_done] at hI7
      have B7 := B6.trans (hb7.mono B6.size)
      have HI5 : Hid (IsOps w7 v5 h) := hI5'.below hb7 (Nat.le_refl _)
      have HI6 : Hid (IsOps w7 v6 (doneL h)) := hI6.below hb7 (Nat.le_refl _)
      have HI7 : Hid (IsOps w7 v7 (doneL h)) := hI7
      have HDL : Hid ((doneL h).length ≤ 140737488351) := by
        have := chk_len (chk_done HC.out)
        show (doneL h).length ≤ 140737488351; omega
      clear hb7 B6 hI6 hI7 hI5'
      go_wp2_with fail
      refine (same_ops h v5 _ _ HI5.out (HI0.out.below B7 (Nat.le_refl _)) (by omega)).mono ?_
      rintro e w8 ⟨rfl, hb8⟩
      have B8 := B7.trans (hb8.mono B7.size)
      have HI6' : Hid (IsOps w8 v6 (doneL h)) := HI6.out.below hb8 (Nat.le_refl _)
      have HI7' : Hid (IsOps w8 v7 (doneL h)) := HI7.out.below hb8 (Nat.le_refl _)
      clear hb8 B7 HI5 HI6 HI7
      go_wp2_with fail
      refine (same_ops (doneL h) v6 v7 _ HI6'.out HI7'.out HDL.out).mono ?_
      rintro e w9 ⟨rfl, hb9⟩
      have B9 := B8.trans (hb9.mono B8.size)
      clear hb9 B8 HI6' HI7' HDL
      go_wp2_with fail
      refine (deals_ok h _ _ (HI0.out.below B9 (Nat.le_refl _)) HC.out).mono ?_
      rintro e w10 ⟨v10, rfl, hI10, hb10⟩
      have B10 := B9.trans (hb10.mono B9.size)
      obtain ⟨ad10, b10, off10, cap10, rfl, ha10, _, hbB10, hc10⟩ := hI10
      have HJ : Hid ((0 < (dealsL h).length → ad10 = some ⟨b10, off10, none⟩) ∧ (b10 < w10.heap.size ∨ dealsL h = []) ∧ ∀ i, i < (dealsL h).length → w10.cell? ⟨b10, off10 + i, none⟩ = some (.int .i64 ((dealsL h).getD i 0))) := ⟨ha10, hbB10, hc10⟩
      clear hb10 B9 ha10 hbB10 hc10
      obtain ⟨dn, hdn⟩ : ∃ n, (dealsL h).length = n := ⟨_, rfl⟩
      have HDN : Hid ((dealsL h).length = dn) := hdn
      have hdn6 : dn ≤ 6 := by have := dealsTo_len h 6; rw [← hdn]; exact this
      rw [hdn]
      clear hdn
      go_wp2_with fail
      go_loopw [20, 21] (fun v20 v21 wr => ∃ k : Nat, k ≤ dn ∧ v21 = .int .i64 k ∧ v20 = .int .i64 (sumL h ((dealsL h).take k)) ∧ Below w10.heap.size w10 wr) (fun _ v21 _ => dn - (intOf v21).toNat)
      case atStart => exact ⟨0, Nat.zero_le _, rfl, rfl, Below.refl _ _⟩
      case round =>
        obtain ⟨k, hk, rfl, rfl, hbel⟩ := hrel
        have hsb := sum_take_le HC.out k
        obtain ⟨sk, hsk⟩ : ∃ n, sumL h ((dealsL h).take k) = n := ⟨_, rfl⟩
        have HSK : Hid (sumL h ((dealsL h).take k) = sk) := hsk
        rw [hsk] at hsb ⊢
        clear hsk
        have B11 := B10.trans (hbel.mono B10.size)
        by_cases hlt : k < dn
        · have hltd : k < (dealsL h).length := by rw [HDN.out]; exact hlt
          obtain rfl := HJ.out.1 (by omega)
          have hb10 : b10 < w10.heap.size := by
            rcases HJ.out.2.1 with h' | h'
            · exact h'
            · rw [h'] at hltd; simp at hltd
          obtain ⟨tx, htx⟩ : ∃ x, (dealsL h).getD k 0 = x := ⟨_, rfl⟩
          have hcx : wr.cell? ⟨b10, off10 + k, none⟩ = some (.int .i64 tx) := by
            rw [hbel.cell (p := ⟨b10, off10 + k, none⟩) hb10, ← htx]; exact HJ.out.2.2 k hltd
          have hmem : tx ∈ dealsL h := by rw [← htx]; simp [List.getD, List.getElem?_eq_getElem hltd]
          obtain ⟨ht1, ht6, hhas⟩ := dealsTo_mem h 6 tx hmem
          have hpos := of_some hhas
          obtain ⟨m, hm⟩ : ∃ m, (ofL h tx).length = m := ⟨_, rfl⟩
          have HM : Hid ((ofL h tx).length = m) := hm
          rw [hm] at hpos
          have hm40 : m ≤ 40 := by
            have : (ofL h tx).length ≤ h.length := List.length_filter_le _ _
            omega
          have HNX : Hid (sumL h ((dealsL h).take (k + 1)) = sk + m) := by
            show sumL h ((dealsL h).take (k + 1)) = sk + m
            rw [List.take_succ_eq_append_getElem hltd, sumL_append, HSK.out]
            have e : (dealsL h)[k] = tx := by rw [← htx]; simp [List.getD, List.getElem?_eq_getElem hltd]
            rw [e]
            simp [sumL, hm]
          have HPV : Hid (0 < k → wr.cell? ⟨b10, off10 + (k - 1), none⟩ = some (.int .i64 ((dealsL h).getD (k - 1) 0)) ∧ (dealsL h).getD (k - 1) 0 < tx) := by
            intro hk0
            refine ⟨?_, ?_⟩
            · rw [hbel.cell (p := ⟨b10, off10 + (k - 1), none⟩) hb10]; exact HJ.out.2.2 (k - 1) (by omega)
            · have hp := List.pairwise_iff_getElem.1 (dealsTo_rise h 6) (k - 1) k (by show k - 1 < (dealsL h).length; omega) hltd (by omega)
              have e1 : (dealsL h).getD (k - 1) 0 = (dealsL h)[k - 1]'(by omega) := by simp [List.getD, List.getElem?_eq_getElem (show k - 1 < (dealsL h).length by omega)]
              have e2 : tx = (dealsL h)[k] := by rw [← htx]; simp [List.getD, List.getElem?_eq_getElem hltd]
              rw [e1, e2]; exact hp
          have hm0 : ((m : Int) == 0) = false := by simp; omega
          clear htx hmem hhas hm
          go_wp2_with fail
          refine (of_ok h _ tx _ (HI0.out.below B11 (Nat.le_refl _)) HC.out (by omega) (by omega)).mono ?_
          rintro e w12 ⟨v12, rfl, hI12, hb12⟩
          obtain ⟨ad12, b12, off12, cap12, rfl, _, _, _, _⟩ := hI12
          rw [HM.out]
          have hB12 := hbel.trans (hb12.mono hbel.size)
          have hcx12 : w12.cell? ⟨b10, off10 + k, none⟩ = some (.int .i64 tx) := by
            have := hbel.size
            rw [hb12.cell (p := ⟨b10, off10 + k, none⟩) (by simp; omega)]; exact hcx
          have hsz12 := hb12.size
          by_cases hk0 : 0 < k
          · obtain ⟨hp1, hp2⟩ := HPV.out hk0
            obtain ⟨ty, hty⟩ : ∃ y, (dealsL h).getD (k - 1) 0 = y := ⟨_, rfl⟩
            rw [hty] at hp1 hp2
            have hcy12 : w12.cell? ⟨b10, off10 + (k - 1), none⟩ = some (.int .i64 ty) := by
              have := hbel.size
              rw [hb12.cell (p := ⟨b10, off10 + (k - 1), none⟩) (by simp; omega)]; exact hp1
            clear hty hp1 hcx HPV hbel hb12
            have hk0' : (0 : Int) < (k : Int) := by omega
            have hlt' : (k : Int) < (dn : Int) := by omega
            go_wp2_with fail
            go_quiet (fail)
            go_wp2
            go_roundw
            case rel => exact ⟨k + 1, by omega, by go_num, by rw [HNX.out]; simp, below_drewN hB12 _⟩
            case measure => simp [intOf]; omega
          · have hk0' : decide ((0 : Int) < (k : Int)) = false := by simp; omega
            clear hcx HPV hbel hb12
            go_wp2_with fail
            go_quiet (fail)
            go_wp2
            go_roundw
            case rel => exact ⟨k + 1, by omega, by go_num, by rw [HNX.out]; simp, below_drewN hB12 _⟩
            case measure => simp [intOf]; omega
        · have hskh : sk = h.length := by
            rw [← HSK.out, List.take_of_length_le (by rw [HDN.out]; omega)]
            exact sum_all HC.out
          subst hskh
          clear HSK hsb
          by_cases hc0 : cut < 0
          · go_wp2
            go_ret
            exact ⟨rfl, B11⟩
          · by_cases hc1 : (h.length : Int) < cut
            · go_wp2
              go_ret
              exact ⟨rfl, B11⟩
            · obtain ⟨cn, hcn⟩ : ∃ n : Nat, cut = n := ⟨cut.toNat, by omega⟩
              subst hcn
              have hcn1 : cn ≤ h.length := by omega
              have hcn2 : cn ≤ cap := by omega
              have HT : Hid (IsOps wr (.slice ad cn cap) (h.take cn)) := isOps_take HA.out.1 HA.out.2.1 (by rcases HA.out.2.2.1 with h' | h'; exact .inl (by have := B11.size; omega); exact .inr h') (HA.out.2.2.2.below B11 HA.out.2.2.1) hcn1
              go_wp2_with fail
              refine (check_ok (h.take cn) _ _ HT.out (chk_take HC.out cn)).mono ?_
              rintro e w13 ⟨rfl, hb13⟩
              go_wp2
              go_ret
              exact ⟨rfl, B11.trans (hb13.mono B11.size)⟩
    · refine (print_bad h _ _ (HI0.out.below B3 (Nat.le_refl _)) hc).mono ?_
      rintro e w4 ⟨rfl, hb4⟩
      go_wp2
      go_ret
      exact ⟨rfl, B3.trans (hb4.mono B3.size)⟩
end Go.Proofs.YtjaeaanpbdmfgaaDoor
