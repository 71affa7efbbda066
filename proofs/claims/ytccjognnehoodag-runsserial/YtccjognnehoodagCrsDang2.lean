/-
  PROVED HERE: package danger: its Edges and Pivots keep what they are asked (AntC, PivC). Old memory stays as it was.
  Conditions: what slices.Sort does is a premise (SortC).
-/
import Derived.Test.YtccjognnehoodagMgbr
import Derived.Test.YtccjognnehoodagMgbv
import Derived.Test.YtccjognnehoodagMgbw
import Derived.Test.YtccjognnehoodagMgbs
namespace Go.Proofs.Ytccjognnehoodag
open Go.RowKit

set_option maxHeartbeats 8000000 in
set_option maxRecDepth 100000 in
theorem ant_sort (hSort : SortC) : AntC 20 := by
  intro l v w hI
  have HRL := hid_q (rules_fn w)
  unfold antN
  by_cases hc : (chk l).2 = 0
  · have HER : Hid (errV (chk l).2 = .nilIface) := by show _ = _; rw [hc]; exact if_pos rfl
    rw [if_neg (by rw [hc]; decide)]
    have HWH : Hid (∀ W, Below w.heap.size w W → _) := fun W hW => whole_ok call_asItWas call_over seesS_c fallS_c.k l v W (fun _ _ => trivial) (hI.below hW (Nat.le_refl _)) hc
    obtain ⟨hl40, hop, hcalm⟩ := (chk_iff l).1 hc
    have HOK : Hid (CrsOk 1000 (runQ seesS fallS l l.length)) := (crsOk_all seesS fallS hop l.length (Nat.le_refl _)).up (by omega)
    have hF := cfit_all rulesS hc l.length (Nat.le_refl _)
    have hK := run_kOk 2 okS hc l.length (Nat.le_refl _)
    have HEQ : Hid (edgQ (runQ seesS fallS l l.length) (runQ seesS fallS l l.length).done = antL (runK 2 okS l l.length).of (runK 2 okS l l.length).done) := by
      show _ = _
      rw [hF.done]
      exact edg_ant hF hK.once (fun t ht => ⟨(hK.comm t ht).2.1, (hK.comm t ht).2.2.1⟩) fun x hx => ⟨(hK.comm x hx).1, .inl ⟨hx, (hK.comm x hx).2.2.2.1⟩⟩
    obtain ⟨ad, b, off, cap, rfl, -⟩ := hI
    obtain ⟨q, hq⟩ : ∃ q, runQ seesS fallS l l.length = q := ⟨_, rfl⟩
    rw [hq] at HOK HEQ HWH
    rw [← HEQ.out, HER.out]
    have HED : Hid (∀ (w0 W : World) (R : Nat) (S F : Value) (c : CLay) (v : Value), CrsAt w0 W R S F q c → IsInts W v q.done → Calls Try.prog 34 #[.pointer (some ⟨R, 0, none⟩), v] W fun e w' => ∃ v', e = .returned v' ∧ IsEdges w' v' (edgQ q q.done) ∧ Below W.heap.size W w') := fun w0 W R S F c v h hv =>
      edges_fn hSort h HOK.out q.done v hv HOK.out.lenD fun t ht => ⟨(HOK.out.six t ht).1, (HOK.out.six t ht).2, HOK.out.begs t ht⟩
    clear hc hop hcalm hl40 hF hK hq HEQ hSort
    go_enter Try.func20, Try.ntmps20
    go_wp2_with fail
    refine HRL.out.mono ?_
    rintro e w1 ⟨rfl, hb1⟩
    have HB1 := hid_q hb1
    clear hb1
    go_wp2_with fail
    refine (HWH.out w1 HB1.out).mono ?_
    rintro e w2 ⟨W0, R, rfl, hb2, c2, hk2⟩
    have HB2 : Hid (Below w.heap.size w w2) := HB1.out.trans ((hb2.trans (hk2.old.mono hb2.size)).mono HB1.out.size)
    have HK2 := hid_q hk2
    clear hb2 hk2
    have HDN := hid_q (done_crs HK2.out HOK.out.lenD)
    go_wp2_with fail
    refine HDN.out.mono ?_
    rintro e w4 ⟨v4, rfl, ho4, hb4⟩
    have HEE := hid_q (HED.out W0 w4 R _ _ c2 v4 (HK2.out.below hb4) (isInts_own ho4 rfl))
    have HB4 : Hid (Below w.heap.size w w4) := HB2.out.trans (hb4.mono HB2.out.size)
    obtain ⟨m, hm⟩ : ∃ m, q.done.length = m := ⟨_, rfl⟩
    rw [hm] at ho4
    obtain ⟨ad4, c4, rfl, -⟩ := own_slice3 ho4
    clear ho4 hb4 hm
    go_wp2_with fail
    refine HEE.out.mono ?_
    rintro e w6 ⟨v6, rfl, hi6, hb6⟩
    have HI6 := hid_q hi6
    have HB6 : Hid (Below w.heap.size w w6) := HB4.out.trans (hb6.mono HB4.out.size)
    obtain ⟨ad6, n6, c6, rfl⟩ : ∃ d n p, v6 = .slice d n p := by obtain ⟨a, _, _, c, h, _⟩ := hi6; exact ⟨a, _, c, h⟩
    clear hi6 hb6
    go_wp2_with fail
    go_ret2
    exact ⟨_, rfl, HI6.out, HB6.out⟩
  · have HER : Hid (errV (chk l).2 = .iface 104 (.int .i64 (chk l).2)) := by show _ = _; unfold errV; rw [if_neg hc]
    rw [if_pos hc]
    have HWH : Hid (∀ W, Below w.heap.size w W → _) := fun W hW => whole_bad (.func (.func 36) #[] #[]) (.func (.func 37) #[] #[]) l v W (hI.below hW (Nat.le_refl _)) hc
    obtain ⟨ad, b, off, cap, rfl, -⟩ := hI
    obtain ⟨n, hn⟩ : ∃ n, (chk l).2 = n := ⟨_, rfl⟩
    rw [hn] at HWH HER
    rw [hn, HER.out]
    clear hc hn hSort
    go_enter Try.func20, Try.ntmps20
    go_wp2_with fail
    refine HRL.out.mono ?_
    rintro e w1 ⟨rfl, hb1⟩
    have HB1 := hid_q hb1
    clear hb1
    go_wp2_with fail
    refine (HWH.out w1 HB1.out).mono ?_
    rintro e w2 ⟨rfl, hb2⟩
    have HB2 : Hid (Below w.heap.size w w2) := HB1.out.trans (hb2.mono HB1.out.size)
    clear hb2
    go_wp2_with fail
    go_ret2
    exact ⟨_, rfl, isEdges_nil _, HB2.out⟩
set_option maxHeartbeats 8000000 in
set_option maxRecDepth 100000 in
theorem piv_sort (hSort : SortC) : PivC 12 := by
  intro l v w hI
  have HA := hid_q (ant_sort hSort l v w hI)
  obtain ⟨ad, b, off, cap, rfl, -⟩ := hI
  unfold pivN
  unfold antN at HA
  by_cases hc : (chk l).2 = 0
  · have HER : Hid (errV (chk l).2 = .nilIface) := by show _ = _; rw [hc]; exact if_pos rfl
    have hne : ¬ (chk l).2 ≠ 0 := by rw [hc]; decide
    rw [if_neg hne] at HA ⊢
    rw [HER.out] at HA ⊢
    have HEL : Hid ((antL (runK 2 okS l l.length).of (runK 2 okS l l.length).done).length ≤ 10000000) := Nat.le_trans (allE_len _) (by decide)
    obtain ⟨E, hE⟩ : ∃ E, antL (runK 2 okS l l.length).of (runK 2 okS l l.length).done = E := ⟨_, rfl⟩
    rw [hE] at HA HEL ⊢
    clear hc hne hE hSort
    go_enter Try.func12, Try.ntmps12
    go_wp2_with fail
    refine HA.out.mono ?_
    rintro e w1 ⟨v1, rfl, hi1, hb1⟩
    have HPP := hid_q (dpivots_fn E v1 w1 hi1 HEL.out)
    have HB1 := hid_q hb1
    obtain ⟨ad1, n1, c1, rfl⟩ : ∃ d n p, v1 = .slice d n p := by obtain ⟨a, _, _, c, h, _⟩ := hi1; exact ⟨a, _, c, h⟩
    clear hi1 hb1
    go_wp2_with fail
    refine HPP.out.mono ?_
    rintro e w2 ⟨v2, rfl, ho2, hb2⟩
    have HI2 := hid_q (isInts_own ho2 rfl)
    have HB2 : Hid (Below w.heap.size w w2) := HB1.out.trans (hb2.mono HB1.out.size)
    obtain ⟨ad2, n2, c2, rfl⟩ : ∃ d n p, v2 = .slice d n p := by obtain ⟨a, _, _, c, h, _⟩ := HI2.out; exact ⟨a, _, c, h⟩
    clear ho2 hb2
    go_wp2_with fail
    go_ret2
    exact ⟨_, rfl, HI2.out, HB2.out⟩
  · have HER : Hid (errV (chk l).2 = .iface 104 (.int .i64 (chk l).2)) := by show _ = _; unfold errV; rw [if_neg hc]
    rw [if_pos hc] at HA ⊢
    obtain ⟨n, hn⟩ : ∃ n, (chk l).2 = n := ⟨_, rfl⟩
    rw [hn] at HER HA
    rw [hn, HER.out]
    rw [HER.out] at HA
    clear hc hn hSort
    go_enter Try.func12, Try.ntmps12
    go_wp2_with fail
    refine HA.out.mono ?_
    rintro e w1 ⟨v1, rfl, hi1, hb1⟩
    have HB1 := hid_q hb1
    obtain ⟨ad1, n1, c1, rfl⟩ : ∃ d n p, v1 = .slice d n p := by obtain ⟨a, _, _, c, h, _⟩ := hi1; exact ⟨a, _, c, h⟩
    clear hi1 hb1
    go_wp2_with fail
    go_ret2
    exact ⟨_, rfl, isInts_nil _, HB1.out⟩
end Go.Proofs.Ytccjognnehoodag
