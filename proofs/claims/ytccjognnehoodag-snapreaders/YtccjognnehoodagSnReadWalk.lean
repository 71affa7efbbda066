/-
  PROVED HERE: lanelaw4.SnapReaders answers true, of any ops, over whatever keeps RunsC of chapter 12.
  Conditions: RunsC.
-/
import Derived.Test.YtccjognnehoodagVaSerPlain
import Derived.Test.YtccjognnehoodagSnapPlain
import Derived.Test.YtccjognnehoodagKindBy
import Derived.Test.YtccjognnehoodagVaSerWalk
namespace Go.Proofs.Ytccjognnehoodag
open Go.RowKit

theorem sn_four : (outU 2 okS false four1).1.1 = [2, 1] ∧ (outU 2 okS false four1).2 = 0 := by decide
/-- Who only reads, and asks to commit, is done. -/
theorem sn_reader {l : List Op3} (h : (chk l).2 = 0) {t : Int} (hw : (ofL l t).any (fun o => o.2.1 == 2) = false) (he : endOf l t = 3) : t ∈ (runK 2 okS l l.length).done := by
  obtain ⟨_, hop, hcalm⟩ := (chk_iff l).1 h
  have hm := mem_endOf hop he
  have hwr : wrL (ofL l t) = [] := by
    unfold wrL
    rw [List.filter_eq_nil_iff.2 fun o ho => by have := List.any_eq_false.1 hw o ho; simpa using this]
    rfl
  have hk := run_reader 2 okS (fun s t r hr => by
    unfold okS hitK
    simp only [Bool.not_eq_true', List.any_eq_false]
    intro i _
    simp [hr, inB]) h l.length (Nat.le_refl _) t (by rw [List.take_length]; exact hm) (by rw [List.take_length]; exact hwr)
  exact hk
set_option maxHeartbeats 16000000 in
set_option maxRecDepth 100000 in
theorem snread_any (hV : RunsC 7 2 okS false) (l : List Op3) (v : Value) (w : World) (hI : IsOps w v l) :
    Calls Try.prog 3 #[v] w fun e w' => e = .returned (.bool true) ∧ Below w.heap.size w w' := by
  have HIE : Hid (∀ W, Below w.heap.size w W → IsOps W v l) := fun W hW => hI.below hW (Nat.le_refl _)
  have HRUN : Hid (∀ W, Below w.heap.size w W → Calls Try.prog 7 #[v] W fun e w' => ∃ a1 a2 a3, e = .returned (.tuple #[.agg #[a1, a2, a3], errV (outU 2 okS false l).2]) ∧ IsInts w' a1 (outU 2 okS false l).1.1 ∧ IsOps w' a2 (outU 2 okS false l).1.2.1 ∧ IsInts w' a3 (outU 2 okS false l).1.2.2 ∧ Room a1 ∧ Below W.heap.size W w') := fun W hW => hV l v W (HIE.out W hW)
  have HONE : Hid (∀ W u, IsOps W u four1 → Calls Try.prog 7 #[u] W fun e w' => ∃ g o c a2 a3, e = .returned (.tuple #[.agg #[.slice (some ⟨g, o, none⟩) 2 c, a2, a3], .nilIface]) ∧ w'.cell? ⟨g, o + 1, none⟩ = some (.int .i64 1) ∧ (∃ ad n c, a2 = .slice ad n c) ∧ (∃ ad n c, a3 = .slice ad n c) ∧ Below W.heap.size W w') := fun W u hu => by
    refine (hV four1 u W hu).mono ?_
    rintro e w' ⟨a1, a2, a3, he, hi1, hi2, hi3, -, hb⟩
    rw [sn_four.2] at he
    rw [sn_four.1] at hi1
    obtain ⟨x1, b1, o1, c1, rfl, h1, -, -, k1⟩ := hi1
    rw [h1 (by simp)] at he
    refine ⟨b1, o1, c1, a2, a3, he, by have := k1 1 (by simp); simpa using this, ?_, ?_, hb⟩
    · obtain ⟨ad, _, _, cap, hv, _⟩ := hi2; exact ⟨ad, _, cap, hv⟩
    · obtain ⟨ad, _, _, cap, hv, _⟩ := hi3; exact ⟨ad, _, cap, hv⟩
  have HST : Hid (∀ W W', Below w.heap.size w W → Below W.heap.size W W' → Below w.heap.size w W') := fun W W' h1 h2 => h1.trans (h2.mono h1.size)
  obtain ⟨ad, b, off, cap, hv, -⟩ := hI
  subst hv
  clear hV
  go_enter Try.func3, Try.ntmps3
  go_wp2_with fail
  have HB1 : Hid (Below w.heap.size w (w.alloc (.cells #[.int .i64 1, .int .i64 1, .int .i64 1, .int .i64 2, .int .i64 2, .int .i64 1, .int .i64 2, .int .i64 3, .int .i64 0, .int .i64 1, .int .i64 3, .int .i64 0] 24))) := (Below.refl _ w).alloc (Nat.le_refl _) _
  refine (HONE.out _ _ (four_at w)).mono ?_
  rintro e w2 ⟨g, o, c, a2, a3, rfl, k1, ⟨x2, y2, z2, rfl⟩, ⟨x3, y3, z3, rfl⟩, hb2⟩
  have HB2 := hid_s (HST.out _ _ HB1.out hb2)
  clear hb2 HB1
  go_upto_region 3 with (fail)
  obtain ⟨W2, hW2⟩ : ∃ W, W = w2.alloc (.cells #[.slice (some ⟨g, o, none⟩) 2 c, .slice x2 y2 z2, .slice x3 y3 z3] 28) := ⟨_, rfl⟩
  rw [← hW2]
  have hbn : Below w2.heap.size w2 W2 := by rw [hW2]; exact (Below.refl _ w2).alloc (Nat.le_refl _) _
  have HB3 := hid_s (HST.out _ _ HB2.out hbn)
  have p0 : W2.cell? ⟨w2.heap.size, 0, none⟩ = some (.slice (some ⟨g, o, none⟩) 2 c) := by rw [hW2]; simp
  have k3 : W2.cell? ⟨g, o + 1, none⟩ = some (.int .i64 1) := (hbn.cell (p := ⟨g, o + 1, none⟩) (World.block_lt_of_cell? w2 _ k1)).trans k1
  obtain ⟨P, hP⟩ : ∃ P, P = w2.heap.size := ⟨_, rfl⟩
  rw [← hP] at p0 ⊢
  clear hW2 hP hbn k1
  go_upto_region 5 with (fail)
  clear p0 k3
  by_cases hc : (chk l).2 = 0
  · have hl40 := chk_len hc
    have hul := outU_len 2 okS false l
    have HRD : Hid (∀ t, (ofL l t).any (fun o => o.2.1 == 2) = false → endOf l t = 3 → t ∈ (runK 2 okS l l.length).done) := fun t hw he => sn_reader hc hw he
    rw [outU_ok hc] at HRUN hul
    have he0 : ordN false (runK 2 okS l l.length).done = (runK 2 okS l l.length).done := rfl
    rw [he0] at HRUN hul
    obtain ⟨ds, hds⟩ : ∃ d, (runK 2 okS l l.length).done = d := ⟨_, rfl⟩
    rw [hds] at HRUN hul HRD
    simp only at HRUN hul
    obtain ⟨se, hse⟩ : ∃ d, seenL (runK 2 okS l l.length).of ds = d := ⟨_, rfl⟩
    obtain ⟨la, hlq⟩ : ∃ d, lastL (runK 2 okS l l.length).of ds = d := ⟨_, rfl⟩
    rw [hse, hlq] at HRUN
    have HRUN2 : Hid (∀ W, Below w.heap.size w W → Calls Try.prog 7 #[.slice ad l.length cap] W fun e w' => ∃ a1 a2 a3, e = .returned (.tuple #[.agg #[a1, a2, a3], .nilIface]) ∧ IsInts w' a1 ds ∧ IsOps w' a2 se ∧ IsInts w' a3 la ∧ Room a1 ∧ Below W.heap.size W w') := HRUN.out
    have HD6 : Hid (ds.length ≤ 6) := hul.1
    have HOF : Hid (∀ W, Below w.heap.size w W → ∀ t, Calls Try.prog 8 #[.slice ad l.length cap, .int .i64 t] W fun e w' => ∃ v', e = .returned v' ∧ IsOps w' v' (ofL l t) ∧ Below W.heap.size W w') := fun W hW t => refOf_any l _ t W (HIE.out W hW) (by omega)
    have HEN : Hid (∀ W, Below w.heap.size w W → ∀ t, Calls Try.prog 10 #[.slice ad l.length cap, .int .i64 t, .int .i64 l.length] W fun e w' => e = .returned (.int .i64 (endOf l t)) ∧ w' = W) := fun W hW t => end_v l _ t W (HIE.out W hW) (by omega)
    have HOL : Hid (∀ t, (ofL l t).length ≤ 40) := fun t => Nat.le_trans (List.length_filter_le _ _) hl40
    clear hul he0 hds hse hlq hc HRUN HONE
    go_wp2_with fail
    refine (HRUN2.out _ HB3.out).mono ?_
    rintro e w5 ⟨a1, a2, a3, rfl, h1, h2, h3, -, hb5⟩
    have HB5 := hid_s (HST.out _ _ HB3.out hb5)
    have H1 := hid_s h1
    obtain ⟨r1, s1, t1, rfl⟩ : ∃ ad n c, a1 = .slice ad n c := by obtain ⟨ad, _, _, cap, hv, _⟩ := h1; exact ⟨ad, _, cap, hv⟩
    obtain ⟨r2, s2, t2, rfl⟩ : ∃ ad n c, a2 = .slice ad n c := by obtain ⟨ad, _, _, cap, hv, _⟩ := h2; exact ⟨ad, _, cap, hv⟩
    obtain ⟨r3, s3, t3, rfl⟩ : ∃ ad n c, a3 = .slice ad n c := by obtain ⟨ad, _, _, cap, hv, _⟩ := h3; exact ⟨ad, _, cap, hv⟩
    clear h1 h2 h3 hb5 HRUN2
    go_upto_region 6 with (fail)
    obtain ⟨W6, hW6⟩ : ∃ W, W = w5.alloc (.cells #[.slice r1 s1 t1, .slice r2 s2 t2, .slice r3 s3 t3] 28) := ⟨_, rfl⟩
    rw [← hW6]
    have hb6 : Below w5.heap.size w5 W6 := by rw [hW6]; exact (Below.refl _ w5).alloc (Nat.le_refl _) _
    have q0 : W6.cell? ⟨w5.heap.size, 0, none⟩ = some (.slice r1 s1 t1) := by rw [hW6]; simp
    obtain ⟨Q, hQ⟩ : ∃ Q, Q = w5.heap.size := ⟨_, rfl⟩
    rw [← hQ] at q0 ⊢
    have HS6 : Hid (Below w.heap.size w W6 ∧ W6.cell? ⟨Q, 0, none⟩ = some (.slice r1 s1 t1) ∧ IsInts W6 (.slice r1 s1 t1) ds) := ⟨HST.out _ _ HB5.out hb6, q0, H1.out.below hb6 (Nat.le_refl _)⟩
    have HLA : Hid (∀ W W', (Below w.heap.size w W ∧ W.cell? ⟨Q, 0, none⟩ = some (.slice r1 s1 t1) ∧ IsInts W (.slice r1 s1 t1) ds) → Below W.heap.size W W' → (Below w.heap.size w W' ∧ W'.cell? ⟨Q, 0, none⟩ = some (.slice r1 s1 t1) ∧ IsInts W' (.slice r1 s1 t1) ds)) := fun W W' hh hb => ⟨HST.out _ _ hh.1 hb, (hb.cell (p := ⟨Q, 0, none⟩) (World.block_lt_of_cell? W _ hh.2.1)).trans hh.2.1, hh.2.2.below hb (Nat.le_refl _)⟩
    clear hW6 hQ hb6 q0 H1
    go_wp2_with fail
    go_loopw [8, 9, 10, 11, 12] (fun v8 _ _ _ _ wr => ∃ n : Nat, n ≤ 6 ∧ v8 = .int .i64 ((n : Int) + 1) ∧ (Below w.heap.size w wr ∧ wr.cell? ⟨Q, 0, none⟩ = some (.slice r1 s1 t1) ∧ IsInts wr (.slice r1 s1 t1) ds)) (fun v8 _ _ _ _ _ => 7 - (intOf v8).toNat)
    case atStart => exact ⟨0, by omega, rfl, HS6.out⟩
    case round =>
      obtain ⟨n, hn, rfl, hst⟩ := hrel
      have HSW := hid_s hst
      clear hst HS6
      by_cases hlt : n < 6
      · have hlt' : (n : Int) + 1 ≤ 6 := by omega
        obtain ⟨tx, htx⟩ : ∃ t : Int, (n : Int) + 1 = t := ⟨_, rfl⟩
        obtain ⟨own, hown⟩ : ∃ o, ofL l tx = o := ⟨_, rfl⟩
        have HOFt : Hid (Calls Try.prog 8 #[.slice ad l.length cap, .int .i64 tx] wr fun e w' => ∃ v', e = .returned v' ∧ IsOps w' v' own ∧ Below wr.heap.size wr w') := by have := HOF.out wr HSW.out.1 tx; rw [hown] at this; exact this
        have hol : own.length ≤ 40 := by rw [← hown]; exact HOL.out tx
        have HRT : Hid (own.any (fun o => o.2.1 == 2) = false → endOf l tx = 3 → tx ∈ ds) := by rw [← hown]; exact HRD.out tx
        have HTX := hid_s htx
        have ht1 : 1 ≤ tx := by omega
        have hwt : IntKind.i64.wrap (tx + 1) = tx + 1 := by rw [IntKind.wrap_i64]; omega
        rw [htx] at hlt' ⊢
        clear hown htx
        go_wp2_with fail
        refine HOFt.out.mono ?_
        rintro e w7 ⟨v7, rfl, hio, hb7⟩
        have HS7 := hid_s (HLA.out _ _ HSW.out hb7)
        obtain ⟨ado, bo, offo, capo, rfl, hao, -, hbBo, hopo⟩ := hio
        have HOO : Hid (∀ j, j < own.length → ado = some ⟨bo, offo, none⟩ ∧ w7.cell? ⟨bo, offo + j * 3 + 1, none⟩ = some (.int .i64 (opAt own j).2.1)) := fun j hj => ⟨hao (by omega), (hopo j hj).2.1⟩
        clear hb7 hao hbBo hopo HOFt
        go_wp2_with fail
        go_loopw [10, 11] (fun v10 v11 wr => ∃ j : Nat, j ≤ own.length ∧ v11 = .int .i64 j ∧ v10 = .bool ((own.take j).any fun o => o.2.1 == 2) ∧ wr = w7) (fun _ v11 _ => own.length - (intOf v11).toNat)
        case atStart => exact ⟨0, Nat.zero_le _, rfl, rfl, rfl⟩
        case round =>
          obtain ⟨j, hj, rfl, rfl, hwr⟩ := hrel
          subst hwr
          by_cases hlt2 : j < own.length
          · have hlt2' : (j : Int) < (own.length : Int) := by omega
            have hj0 : (0 : Int) ≤ (j : Int) := by omega
            have hjn : ¬ (j : Int) < 0 := by omega
            obtain ⟨rfl, e1⟩ := HOO.out j hlt2
            obtain ⟨b1, hb1⟩ : ∃ b, ((own.take j).any fun o => o.2.1 == 2) = b := ⟨_, rfl⟩
            obtain ⟨a, hao⟩ : ∃ a, (opAt own j).2.1 = a := ⟨_, rfl⟩
            rw [hao] at e1
            have HTJ : Hid (((own.take (j + 1)).any fun o => o.2.1 == 2) = (b1 || (a == 2))) := by
              show _ = _
              rw [List.take_succ_eq_append_getElem hlt2, List.any_append, hb1]
              have h9 : own[j] = opAt own j := by simp [opAt, List.getD, List.getElem?_eq_getElem hlt2]
              simp [h9, hao]
            rw [hb1]
            clear hb1 hao
            cases b1 with
            | true =>
              go_wp2_with fail
              go_roundw
              case rel => exact ⟨j + 1, by omega, by go_num, by rw [HTJ.out]; simp, trivial⟩
              case measure => simp [intOf]; omega
            | false =>
              go_wp2_with fail
              go_roundw
              case rel => exact ⟨j + 1, by omega, by go_num, by rw [HTJ.out]; simp, trivial⟩
              case measure => simp [intOf]; omega
          · have hlt2' : ¬ (j : Int) < (own.length : Int) := by omega
            obtain rfl : j = own.length := by omega
            rw [List.take_length]
            obtain ⟨b1, hb1⟩ : ∃ b, (own.any fun o => o.2.1 == 2) = b := ⟨_, rfl⟩
            rw [hb1] at HRT ⊢
            obtain ⟨b2, hb2⟩ : ∃ b, inB ds tx = b := ⟨_, rfl⟩
            have HIN : Hid (Calls Try.prog 9 #[.slice r1 s1 t1, .int .i64 tx] wr fun e w' => e = .returned (.bool b2) ∧ w' = wr) := by have h9 := in_any ds (.slice r1 s1 t1) tx wr HS7.out.2.2 (by have := HD6.out; omega); rw [hb2] at h9; exact h9
            have qq := HS7.out.2.1
            have HENt := hid_s (HEN.out wr HS7.out.1 tx)
            obtain ⟨en, hen⟩ : ∃ e, endOf l tx = e := ⟨_, rfl⟩
            rw [hen] at HENt HRT
            have HIB : Hid (b2 = true ∨ tx ∉ ds) := by
              cases b2 with
              | true => exact .inl rfl
              | false =>
                refine .inr fun hm => ?_
                have h9 : inB ds tx = true := by unfold inB; simpa using hm
                rw [h9] at hb2
                cases hb2
            clear hb1 hb2 hen
            go_wp2_with fail
            refine HIN.out.mono ?_
            rintro e w8 ⟨rfl, hw8⟩
            rw [hw8]
            clear hw8
            cases b1 with
            | true =>
              go_wp2_with fail
              go_roundw
              case rel => exact ⟨n + 1, by omega, by rw [← HTX.out]; go_num, HS7.out⟩
              case measure => rw [← HTX.out]; simp [intOf]; omega
            | false =>
              cases b2 with
              | true =>
                go_wp2_with fail
                go_roundw
                case rel => exact ⟨n + 1, by omega, by rw [← HTX.out]; go_num, HS7.out⟩
                case measure => rw [← HTX.out]; simp [intOf]; omega
              | false =>
                have hne : ¬ en = 3 := fun e => (HIB.out.elim (fun h => by cases h) fun h => h (HRT.out rfl e))
                have hneb : (en == 3) = false := by simpa using hne
                go_wp2_with fail
                refine HENt.out.mono ?_
                rintro e w9 ⟨rfl, hw9⟩
                rw [hw9]
                clear hw9
                go_wp2_with fail
                go_roundw
                case rel => exact ⟨n + 1, by omega, by rw [← HTX.out]; go_num, HS7.out⟩
                case measure => rw [← HTX.out]; simp [intOf]; omega
      · have hlt' : ¬ (n : Int) + 1 ≤ 6 := by omega
        go_wp2_with fail
        go_ret
        exact ⟨rfl, HSW.out.1⟩
  · have hev := errV_ne hc
    rw [outU_bad hc] at HRUN
    simp only at HRUN
    rw [hev] at HRUN
    obtain ⟨ce, hce⟩ : ∃ ce, (chk l).2 = ce := ⟨_, rfl⟩
    rw [hce] at HRUN
    clear hev hc hce HONE
    go_wp2_with fail
    refine (HRUN.out _ HB3.out).mono ?_
    rintro e w5 ⟨a1, a2, a3, rfl, h1, h2, h3, hro, hb5⟩
    obtain ⟨r1, s1, t1, rfl⟩ : ∃ ad n c, a1 = .slice ad n c := by obtain ⟨ad, _, _, cap, hv, _⟩ := h1; exact ⟨ad, _, cap, hv⟩
    obtain ⟨r2, s2, t2, rfl⟩ : ∃ ad n c, a2 = .slice ad n c := by obtain ⟨ad, _, _, cap, hv, _⟩ := h2; exact ⟨ad, _, cap, hv⟩
    obtain ⟨r3, s3, t3, rfl⟩ : ∃ ad n c, a3 = .slice ad n c := by obtain ⟨ad, _, _, cap, hv, _⟩ := h3; exact ⟨ad, _, cap, hv⟩
    have HB5 := hid_s (HST.out _ _ HB3.out hb5)
    have HB6 : Hid (∀ ob : Obj, Below w.heap.size w (w5.alloc ob)) := fun ob => HST.out _ _ HB5.out ((Below.refl _ w5).alloc (Nat.le_refl _) ob)
    clear h1 h2 h3 hro hb5
    go_wp2_with fail
    go_ret
    exact ⟨rfl, HB6.out _⟩
end Go.Proofs.Ytccjognnehoodag
