/-
  PROVED HERE: lanelaw1.SerialTells returns true at a right list and any order, and what was there stays as it was.
  Conditions: the variable errors.errorType holds the handle of the type error (the row lists it); the order is not longer than any that can be read.
-/
import Derived.Test.YtjaeaanpbdmfgabGreatDoorRefPut
import Derived.Test.YtjaeaanpbdmfgabGreatDoorSTellBad
import Derived.Deep.Cut
import Derived.Deep.CutRange
namespace Go.Proofs.YtjaeaanpbdmfgabGreatDoor
open Go.RowKit

theorem shape_no {d : List Op3} {o : List Int} (h : ¬ (o.length = (dealsL d).length ∧ putsL o = dealsL d)) : (sortI o == dealsL d) = false := by
  rw [beq_eq_false_iff_ne]
  exact fun e => h ((sort_iff (dealsL_rise d)).1 e)
theorem shape_yes {d : List Op3} {o : List Int} (h : o.length = (dealsL d).length) (h2 : putsL o = dealsL d) : sortI o = dealsL d := (sort_iff (dealsL_rise d)).2 ⟨h, h2⟩
theorem runs_up {d : List Op3} {k : Nat} (h : k = 0 ∨ (opAt d k).1 ≠ (opAt d (k - 1)).1) : runsTo d (k + 1) = runsTo d k + 1 := by simp only [runsTo]; rw [if_pos h]
theorem runs_same {d : List Op3} {k : Nat} (h : k ≠ 0) (h2 : (opAt d k).1 = (opAt d (k - 1)).1) : runsTo d (k + 1) = runsTo d k := by
  have hn : ¬ (k = 0 ∨ (opAt d k).1 ≠ (opAt d (k - 1)).1) := by
    rintro (h3 | h3)
    · exact h h3
    · exact h3 h2
  simp only [runsTo]; rw [if_neg hn]; rfl

set_option maxHeartbeats 16000000 in
set_option maxRecDepth 100000 in
theorem stell_ok (l : List Op3) (o : List Int) (v u : Value) (w : World) (hI : IsOps w v l) (hu : IsInts w u o) (hol : o.length ≤ 17592186043904) (hc : (chk l).2 = 0) (hg : EtAt w) :
    Calls Tryz.prog 3 #[v, u] w fun e w' => e = .returned (.bool true) ∧ Below w.heap.size w w' := by
  have HST : Hid (∀ W W', Below w.heap.size w W → Below W.heap.size W W' → Below w.heap.size w W') := fun W W' h1 h2 => h1.trans (h2.mono h1.size)
  have HEt : Hid (∀ W, Below w.heap.size w W → EtAt W) := fun W hW => hg.below hW hg.lt
  have HUI : Hid (∀ W, Below w.heap.size w W → IsInts W u o) := fun W hW => hu.below hW (Nat.le_refl _)
  have hri : Calls Tryz.prog 5 #[v] w fun e w' => e = .returned (.int .i64 0) ∧ Below w.heap.size w w' := (refRight_any l v w hI).mono fun _ _ ⟨he, hb⟩ => ⟨by rw [he, hc], hb⟩
  have hdone : ∀ W, Below w.heap.size w W → Calls Tryz.prog 7 #[v] W fun e w' => ∃ v', e = .returned v' ∧ IsOps w' v' (doneL l) ∧ Below W.heap.size W w' := fun W hW => refDone_any l v W (hI.below hW (Nat.le_refl _)) hc
  have hser := fun W (hW : Below w.heap.size w W) => ser_u l o v u W (hI.below hW (Nat.le_refl _)) (hu.below hW (Nat.le_refl _)) hc
  have hord := fun W (hW : Below w.heap.size w W) => ord_u l v W (hI.below hW (Nat.le_refl _)) hc
  have href := fun W (hW : Below w.heap.size w W) => refOrd_u l v W (hI.below hW (Nat.le_refl _)) hc
  have his := fun W (hW : Below w.heap.size w W) => is_ok l v W (hI.below hW (Nat.le_refl _)) hc
  have hdo := doing_done hc
  have hl40 := chk_len (chk_done hc)
  obtain ⟨d, hd⟩ : ∃ d, doneL l = d := ⟨_, rfl⟩
  rw [hd] at hdone hser hord href his hdo hl40
  have HRI : Hid (Calls Tryz.prog 5 #[v] w fun e w' => e = .returned (.int .i64 0) ∧ Below w.heap.size w w') := hri
  have HDONE : Hid (∀ W, Below w.heap.size w W → Calls Tryz.prog 7 #[v] W fun e w' => ∃ v', e = .returned v' ∧ IsOps w' v' d ∧ Below W.heap.size W w') := hdone
  have HSER : Hid (∀ W, Below w.heap.size w W → Calls Tryz.prog 11 #[v, u] W fun e w' => ∃ v', e = .returned (.tuple #[v', errV (shapeE d o)]) ∧ IsOps w' v' (wantL d o) ∧ Below W.heap.size W w') := hser
  have HORD : Hid (∀ W, Below w.heap.size w W → Calls Tryz.prog 15 #[v] W fun e w' => ∃ v', e = .returned (.tuple #[v', errV (cycE d)]) ∧ IsInts w' v' (ordL d) ∧ Below W.heap.size W w') := hord
  have HREF : Hid (∀ W, Below w.heap.size w W → Calls Tryz.prog 14 #[v] W fun e w' => ∃ v', e = .returned (.tuple #[v', .bool (serOrd d).isSome]) ∧ IsInts w' v' (ordL d) ∧ Below W.heap.size W w') := href
  have HIS : Hid (∀ W, Below w.heap.size w W → Calls Tryz.prog 16 #[v] W fun e w' => e = .returned (.tuple #[.bool (serB d), .nilIface]) ∧ Below W.heap.size W w') := his
  have HDO : Hid (Doing d) := hdo
  have HL40 : Hid (d.length ≤ 40) := hl40
  have HDL : Hid ((dealsL d).length ≤ 6) := dealsTo_len d 6
  have HWL : Hid ((wantL d o).length ≤ 240) := by
    show (wantL d o).length ≤ 240
    unfold wantL
    split
    · rename_i h
      have h1 := along_len d o
      have h2 := order_len (l := d) (o := o) (by simpa using h)
      have h3 := Nat.mul_le_mul h2 hl40
      omega
    · simp
  have HOLE : Hid ((ordL d).length ≤ 1000) := by
    show (ordL d).length ≤ 1000
    unfold ordL
    cases hs : serOrd d with
    | none => simp
    | some q =>
      unfold serOrd at hs
      obtain ⟨b, hb, rfl⟩ := Option.map_eq_some_iff.1 hs
      show (weaveL b ((dealsL d).filter fun x => !inB b x)).length ≤ 1000
      rw [weave_len]
      have h1 := List.length_filter_le (fun x => !inB b x) (dealsL d)
      have h2 := HDL.out
      rcases order_either (edges_right d 36) with ⟨q, hq, hio⟩ | ⟨hq, _⟩
      · rw [hb] at hq
        cases hq
        have h3 := hio.once.length_le_of_subset (l₂ := [1, 2, 3, 4, 5, 6]) fun x hx => by
          obtain ⟨t, rfl, ht1, ht6⟩ := hio.deal x hx
          simp; omega
        simp at h3
        omega
      · rw [hb] at hq; cases hq
  obtain ⟨adu, bu, offu, capu, rfl, hau, -, hbu, hcu⟩ := hu
  have HU : Hid (∀ W, Below w.heap.size w W → ∀ k, k < o.length → adu = some ⟨bu, offu, none⟩ ∧ W.cell? ⟨bu, offu + k, none⟩ = some (.int .i64 (o.getD k 0))) := fun W hW k hk => by
    have hb : bu < w.heap.size := by
      rcases hbu with h | h
      · exact h
      · subst h; simp at hk
    exact ⟨hau (by omega), (hW.cell (p := ⟨bu, offu + k, none⟩) hb).trans (hcu k hk)⟩
  clear hri hdone hser hord href his hdo hl40 hd hI hc hg hau hbu hcu
  obtain ⟨se, hse⟩ : ∃ se, shapeE d o = se := ⟨_, rfl⟩
  obtain ⟨wl, hwl⟩ : ∃ wl, wantL d o = wl := ⟨_, rfl⟩
  obtain ⟨ce, hce⟩ : ∃ ce, cycE d = ce := ⟨_, rfl⟩
  obtain ⟨ol, hoe⟩ : ∃ ol, ordL d = ol := ⟨_, rfl⟩
  obtain ⟨sb, hsb⟩ : ∃ sb, serB d = sb := ⟨_, rfl⟩
  rw [hse, hwl] at HSER
  rw [hwl] at HWL
  rw [hce, hoe] at HORD
  rw [hoe] at HREF HOLE
  rw [hsb] at HIS
  have HSE : Hid (shapeE d o = se ∧ wantL d o = wl) := ⟨hse, hwl⟩
  have HCE : Hid (cycE d = ce ∧ serB d = sb) := ⟨hce, hsb⟩
  clear hse hwl hce hoe hsb
  go_enter Tryz.func3, Tryz.ntmps3
  go_wp2_with fail
  refine HRI.out.mono ?_
  rintro e w1 ⟨rfl, hb1⟩
  go_upto_if 29 with fail
  go_cut [6, 7] from 25 (fun s6 s7 W => s6 = .int .i64 se ∧ IsOps W s7 wl ∧ Below w.heap.size w W)
  case first =>
    go_wp2_with fail
    refine (HDONE.out w1 hb1).mono ?_
    rintro e w2 ⟨v2, rfl, hI2, hq2⟩
    have hb2 := HST.out _ _ hb1 hq2
    have HI2 : Hid (IsOps w2 v2 d) := hI2
    clear hI2 hq2 hb1
    go_wp2_with fail
    refine (rdeals_u HDO.out.deal HL40.out _ _ HI2.out).mono ?_
    rintro e w3 ⟨v3, rfl, hI3, hq3⟩
    have HB3 : Hid (Below w.heap.size w w3) := HST.out _ _ hb2 hq3
    have HI3 : Hid (∀ W, Below w3.heap.size w3 W → IsInts W v3 (dealsL d)) := fun W hW => hI3.below hW (Nat.le_refl _)
    obtain ⟨ad3, b3, off3, cap3, hv3, -, -, -, -⟩ := hI3
    obtain ⟨dn, hdn⟩ : ∃ dn, (dealsL d).length = dn := ⟨_, rfl⟩
    rw [hdn] at hv3
    have HDN : Hid ((dealsL d).length = dn) := hdn
    have hd6 : dn ≤ 6 := by rw [← hdn]; exact HDL.out
    subst hv3
    clear hdn hb2 hq3
    go_wp2_with fail
    go_loopw [9, 10] (fun v9 v10 wr => ∃ k : Nat, k ≤ o.length ∧ v10 = .int .i64 k ∧ IsInts wr v9 (putsL (o.take k)) ∧ Below w3.heap.size w3 wr) (fun _ v10 _ => o.length - (intOf v10).toNat)
    case atStart => exact ⟨0, Nat.zero_le _, rfl, isInts_nil _, Below.refl _ _⟩
    case round =>
      obtain ⟨k, hk, rfl, hI9, hbel⟩ := hrel
      have HI9 : Hid (IsInts wr u9 (putsL (o.take k))) := hI9
      have hb0 := HST.out _ _ HB3.out hbel
      clear hI9
      by_cases hlt : k < o.length
      · have hlt' : (k : Int) < (o.length : Int) := by omega
        obtain ⟨hadr, c0⟩ := HU.out wr hb0 k hlt
        subst hadr
        obtain ⟨t, ht⟩ : ∃ t, o.getD k 0 = t := ⟨_, rfl⟩
        rw [ht] at c0
        have HT : Hid (putsL (o.take (k + 1)) = putL (putsL (o.take k)) t) := by
          show putsL (o.take (k + 1)) = putL (putsL (o.take k)) t
          rw [List.take_succ_eq_append_getElem hlt, ← putsL_snoc, ← ht]
          simp [List.getD, List.getElem?_eq_getElem hlt]
        have HPN : Hid ((putsL (o.take k)).length ≤ 17592186044000) := by
          show (putsL (o.take k)).length ≤ 17592186044000
          have h1 := putsL_len (o.take k)
          have h2 := List.length_take_le' k o
          omega
        clear ht hb0
        go_wp2_with fail
        refine (put_any _ _ t _ HI9.out HPN.out).mono ?_
        rintro e w4 ⟨v4, rfl, hI4, hb4⟩
        have HI4 : Hid (IsInts w4 v4 (putsL (o.take (k + 1)))) := by rw [HT.out]; exact hI4
        clear hI4
        go_wp2_with fail
        go_roundw
        case rel => exact ⟨k + 1, by omega, by go_num, HI4.out, hbel.trans (hb4.mono hbel.size)⟩
        case measure => simp [intOf]; omega
      · have hlt' : ¬ (k : Int) < (o.length : Int) := by omega
        have HF : Hid (IsInts wr u9 (putsL o)) := by
          show IsInts wr u9 (putsL o)
          have h1 := HI9.out
          rw [List.take_of_length_le (by omega)] at h1
          exact h1
        clear HI9
        by_cases hlen : o.length = dn
        · have HLEN : Hid (o.length = dn) := hlen
          have hne : ((o.length : Int) != (dn : Int)) = false := by rw [hlen]; simp
          have HPS : Hid ((putsL o).length ≤ 1000) := by
            show (putsL o).length ≤ 1000
            have := putsL_len o
            omega
          clear hlen
          cases hp : (putsL o == dealsL d) with
          | false =>
            have HP : Hid ((putsL o == dealsL d) = false) := hp
            have HSH : Hid (se = 3 ∧ wl = []) := by
              have h1 : (sortI o == dealsL d) = false := shape_no fun h => by
                rw [h.2] at hp
                simp at hp
              rw [← HSE.out.1, ← HSE.out.2]
              unfold shapeE wantL
              rw [h1]
              exact ⟨rfl, rfl⟩
            clear hp
            go_wp2_with fail
            refine (ints_any (putsL o) (dealsL d) _ _ _ HF.out (HI3.out _ hbel) HPS.out).mono ?_
            rintro e w4 ⟨rfl, hq4⟩
            rw [HP.out]
            go_wp2_with fail
            go_meet
            case rel => exact ⟨by rw [HSH.out.1], by rw [HSH.out.2]; exact isOps_nil _, HST.out _ _ hb0 hq4⟩
          | true =>
            have HP : Hid ((putsL o == dealsL d) = true) := hp
            have HSO : Hid (sortI o = dealsL d) := shape_yes (by rw [HLEN.out, HDN.out]) (by simpa using hp)
            have HSH : Hid (se = 0 ∧ wl = alongL d o) := by
              have h1 : (sortI o == dealsL d) = true := by rw [HSO.out]; simp
              rw [← HSE.out.1, ← HSE.out.2]
              unfold shapeE wantL
              rw [h1]
              exact ⟨rfl, rfl⟩
            clear hp
            go_wp2_with fail
            refine (ints_any (putsL o) (dealsL d) _ _ _ HF.out (HI3.out _ hbel) HPS.out).mono ?_
            rintro e w4 ⟨rfl, hq4⟩
            rw [HP.out]
            have hb4 := HST.out _ _ hb0 hq4
            clear hq4 hb0
            go_wp2_with fail
            refine (HDONE.out w4 hb4).mono ?_
            rintro e w5 ⟨v5, rfl, hI5, hq5⟩
            have hb5 := HST.out _ _ hb4 hq5
            have HI5 : Hid (IsOps w5 v5 d) := hI5
            clear hI5 hq5 hb4
            go_wp2_with fail
            refine (along_any d o _ _ _ HI5.out (HUI.out _ hb5) HL40.out (order_len HSO.out) (fun x hx => of_some (mem_deals.1 ((sort_perm HSO.out).mem_iff.1 hx)).2.2)).mono ?_
            rintro e w6 ⟨v6, rfl, hI6, hq6⟩
            have HI6 : Hid (IsOps w6 v6 (alongL d o)) := hI6
            clear hI6
            go_wp2_with fail
            go_meet
            case rel => exact ⟨by rw [HSH.out.1], by rw [HSH.out.2]; exact HI6.out, HST.out _ _ hb5 hq6⟩
        · have hne : ((o.length : Int) != (dn : Int)) = true := by
            rw [bne_iff_ne]; omega
          have HSH : Hid (se = 3 ∧ wl = []) := by
            have h1 : (sortI o == dealsL d) = false := shape_no fun h => hlen (by rw [h.1, HDN.out])
            rw [← HSE.out.1, ← HSE.out.2]
            unfold shapeE wantL
            rw [h1]
            exact ⟨rfl, rfl⟩
          clear hlen
          go_wp2_with fail
          go_meet
          case rel => exact ⟨by rw [HSH.out.1], by rw [HSH.out.2]; exact isOps_nil _, hb0⟩
  case rest =>
    obtain ⟨rfl, hI7, hbc⟩ := hcut
    have HI7 : Hid (IsOps wc u7 wl) := hI7
    clear hI7
    go_wp2_with fail
    refine (HSER.out wc hbc).mono ?_
    rintro e w2 ⟨v2, rfl, hI2, hq2⟩
    have hb2 := HST.out _ _ hbc hq2
    have HI2 : Hid (IsOps w2 v2 wl ∧ IsOps w2 u7 wl) := ⟨hI2, HI7.out.below hq2 (Nat.le_refl _)⟩
    clear hI2 hq2 hbc
    go_wp2_with fail
    refine (err_u se _ (HEt.out _ hb2)).mono ?_
    rintro e w3 ⟨rfl, hq3⟩
    have hb3 := HST.out _ _ hb2 hq3
    have HI3 : Hid (IsOps w3 v2 wl ∧ IsOps w3 u7 wl) := ⟨HI2.out.1.below hq3 (Nat.le_refl _), HI2.out.2.below hq3 (Nat.le_refl _)⟩
    clear hq3 hb2
    go_wp2_with fail
    refine (same_ops wl _ _ _ HI3.out.1 HI3.out.2 (by have := HWL.out; omega)).mono ?_
    rintro e w4 ⟨rfl, hq4⟩
    have hb4 := HST.out _ _ hb3 hq4
    clear hq4 hb3 HI2 HI3 HI7
    go_upto_if 76 with fail
    go_cut [6, 14, 15] from 25 (fun s6 s14 s15 W => s6 = .int .i64 ce ∧ IsInts W s14 ol ∧ s15 = .bool sb ∧ Below w.heap.size w W)
    case first =>
      go_wp2_with fail
      refine (HDONE.out w4 hb4).mono ?_
      rintro e w5 ⟨v5, rfl, hI5, hq5⟩
      have HB5 : Hid (Below w.heap.size w w5) := HST.out _ _ hb4 hq5
      have HI5 : Hid (∀ W, Below w5.heap.size w5 W → IsOps W v5 d) := fun W hW => hI5.below hW (Nat.le_refl _)
      obtain ⟨ad5, b5, off5, cap5, hv5, ha5, -, hbB5, hops5⟩ := hI5
      have HE : Hid (∀ W, Below w5.heap.size w5 W → ∀ k, k < d.length → ad5 = some ⟨b5, off5, none⟩ ∧ W.cell? ⟨b5, off5 + k * 3, none⟩ = some (.int .i64 (opAt d k).1)) := fun W hW k hk => ⟨ha5 (by omega), ((hops5.below hW hbB5) k hk).1⟩
      subst hv5
      clear ha5 hbB5 hops5 hq5 hb4
      go_wp2_with fail
      go_loopw [17, 18] (fun v17 v18 wr => ∃ k : Nat, k ≤ d.length ∧ v18 = .int .i64 k ∧ v17 = .int .i64 (runsTo d k) ∧ Below w5.heap.size w5 wr) (fun _ v18 _ => d.length - (intOf v18).toNat)
      case atStart => exact ⟨0, Nat.zero_le _, rfl, rfl, Below.refl _ _⟩
      case round =>
        obtain ⟨k, hk, rfl, rfl, hbel⟩ := hrel
        have hl40 := HL40.out
        have hrl := runsTo_le d k
        obtain ⟨r, hr⟩ : ∃ r, runsTo d k = r := ⟨_, rfl⟩
        have HR : Hid (runsTo d k = r) := hr
        rw [hr] at hrl ⊢
        clear hr
        by_cases hlt : k < d.length
        · have hlt' : (k : Int) < (d.length : Int) := by omega
          obtain ⟨hadr, q0⟩ := HE.out wr hbel k hlt
          subst hadr
          by_cases hk0 : k = 0
          · subst hk0
            have HN : Hid (runsTo d 1 = r + 1) := by show runsTo d (0 + 1) = r + 1; rw [runs_up (.inl rfl), HR.out]
            go_wp2_with fail
            go_quiet (fail)
            go_wp2
            go_roundw
            case rel => exact ⟨1, by omega, by go_num, by rw [HN.out]; go_num, below_drewN hbel _⟩
            case measure => simp [intOf]; omega
          · have hk0' : ((k : Int) == 0) = false := by simpa using hk0
            obtain ⟨m, hm⟩ : ∃ m, k = m + 1 := ⟨k - 1, by omega⟩
            have hnm : (k : Int) - 1 = (m : Int) := by omega
            have hml : m < d.length := by omega
            have hwm : IntKind.i64.wrap (m : Int) = (m : Int) := by rw [IntKind.wrap_i64]; omega
            have HM : Hid (k = m + 1) := hm
            have HK0 : Hid (k ≠ 0) := hk0
            clear hm hk0
            obtain ⟨_, p0⟩ := HE.out wr hbel m hml
            obtain ⟨t, ho⟩ : ∃ t, (opAt d m).1 = t := ⟨_, rfl⟩
            obtain ⟨t2, ho2⟩ : ∃ t2, (opAt d k).1 = t2 := ⟨_, rfl⟩
            rw [ho] at p0
            rw [ho2] at q0
            have HO : Hid ((opAt d (k - 1)).1 = t ∧ (opAt d k).1 = t2) := ⟨by rw [show k - 1 = m by have := HM.out; omega]; exact ho, ho2⟩
            clear ho ho2
            cases hq : (t2 != t) with
            | true =>
              have HN : Hid (runsTo d (k + 1) = r + 1) := by
                show runsTo d (k + 1) = r + 1
                rw [runs_up (.inr (by rw [HO.out.1, HO.out.2]; simpa using hq)), HR.out]
              go_wp2_with fail
              go_quiet (fail)
              go_wp2
              go_roundw
              case rel => exact ⟨k + 1, by omega, by go_num, by rw [HN.out]; go_num, below_drewN hbel _⟩
              case measure => simp [intOf]; omega
            | false =>
              have HN : Hid (runsTo d (k + 1) = r) := by
                show runsTo d (k + 1) = r
                rw [runs_same HK0.out (by rw [HO.out.1, HO.out.2]; simpa using hq), HR.out]
              go_wp2_with fail
              go_quiet (fail)
              go_wp2
              go_roundw
              case rel => exact ⟨k + 1, by omega, by go_num, by rw [HN.out], below_drewN hbel _⟩
              case measure => simp [intOf]; omega
        · have hlt' : ¬ (k : Int) < (d.length : Int) := by omega
          have HRL : Hid (runsTo d d.length = r) := by rw [← HR.out, show k = d.length by omega]; exact rfl
          have hb6 := HST.out _ _ HB5.out hbel
          go_wp2_with fail
          refine (rdeals_u HDO.out.deal HL40.out _ _ (HI5.out _ hbel)).mono ?_
          rintro e w7 ⟨v7, rfl, hI7, hq7⟩
          have hb7 := HST.out _ _ hb6 hq7
          obtain ⟨ad7, b7, off7, cap7, hv7, -, -, -, -⟩ := hI7
          obtain ⟨dn, hdn⟩ : ∃ dn, (dealsL d).length = dn := ⟨_, rfl⟩
          rw [hdn] at hv7
          have HSB : Hid (((r : Int) == (dn : Int)) = sb) := by
            have h1 := HDO.out.ser
            rw [HRL.out, hdn, HCE.out.2] at h1
            exact h1
          subst hv7
          clear hdn hb6 hq7 hbel
          go_wp2_with fail
          refine (HREF.out w7 hb7).mono ?_
          rintro e w8 ⟨v8, rfl, hI8, hq8⟩
          have hb8 := HST.out _ _ hb7 hq8
          have HI8 : Hid (IsInts w8 v8 ol) := hI8
          clear hI8 hq8 hb7
          cases hs : (serOrd d).isSome with
          | true =>
            have HC0 : Hid (ce = 0) := by show ce = 0; rw [← HCE.out.1]; unfold cycE; rw [hs]; rfl
            clear hs
            go_wp2_with fail
            go_meet
            case rel => exact ⟨by rw [HC0.out], HI8.out, by rw [HSB.out], hb8⟩
          | false =>
            have HC0 : Hid (ce = 8) := by show ce = 8; rw [← HCE.out.1]; unfold cycE; rw [hs]; rfl
            clear hs
            go_wp2_with fail
            go_meet
            case rel => exact ⟨by rw [HC0.out], HI8.out, by rw [HSB.out], hb8⟩
    case rest =>
      obtain ⟨rfl, hI14, rfl, hbc⟩ := hcut
      have HI14 : Hid (IsInts wc u14 ol) := hI14
      clear hI14
      go_wp2_with fail
      refine (HORD.out wc hbc).mono ?_
      rintro e w5 ⟨v5, rfl, hI5, hq5⟩
      have hb5 := HST.out _ _ hbc hq5
      have HI5 : Hid (IsInts w5 v5 ol ∧ IsInts w5 u14 ol) := ⟨hI5, HI14.out.below hq5 (Nat.le_refl _)⟩
      clear hI5 hq5 hbc
      go_wp2_with fail
      refine (err_u ce _ (HEt.out _ hb5)).mono ?_
      rintro e w6 ⟨rfl, hq6⟩
      have hb6 := HST.out _ _ hb5 hq6
      have HI6 : Hid (IsInts w6 v5 ol ∧ IsInts w6 u14 ol) := ⟨HI5.out.1.below hq6 (Nat.le_refl _), HI5.out.2.below hq6 (Nat.le_refl _)⟩
      clear hq6 hb5
      go_wp2_with fail
      refine (same_ints ol _ _ _ HI6.out.1 HI6.out.2 (by have := HOLE.out; omega)).mono ?_
      rintro e w7 ⟨rfl, hq7⟩
      have hb7 := HST.out _ _ hb6 hq7
      clear hq7 hb6 HI5 HI6 HI14
      go_wp2_with fail
      refine (HIS.out w7 hb7).mono ?_
      rintro e w8 ⟨rfl, hq8⟩
      have hb8 := HST.out _ _ hb7 hq8
      clear hq8 hb7
      go_wp2_with fail
      refine (err_u 0 _ (HEt.out _ hb8)).mono ?_
      rintro e w9 ⟨rfl, hq9⟩
      have hb9 := HST.out _ _ hb8 hq9
      go_wp2_with fail
      go_ret
      exact ⟨by simp, hb9⟩
end Go.Proofs.YtjaeaanpbdmfgabGreatDoor
