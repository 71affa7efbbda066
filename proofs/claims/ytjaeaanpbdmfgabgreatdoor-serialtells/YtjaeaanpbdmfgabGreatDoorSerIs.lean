/-
  PROVED HERE: serial.Is tells whether each deal that is done is in one piece there; of a wrong list Check's error. Old memory stays as it was.
  Conditions: none.
-/
import Derived.Test.YtjaeaanpbdmfgabGreatDoorSerDone
namespace Go.Proofs.YtjaeaanpbdmfgabGreatDoor
open Go.RowKit

set_option maxHeartbeats 2000000 in
theorem is_bad (l : List Op3) (v : Value) (w : World) (h : IsOps w v l) (hc : (chk l).2 ≠ 0) :
    Calls Tryz.prog 16 #[v] w fun e w' => e = .returned (.tuple #[.bool false, .iface 58 (.int .i64 (chk l).2)]) ∧ Below w.heap.size w w' := by
  go_enter Tryz.func16, Tryz.ntmps16
  go_wp2_with (go_at_call 41; refine (done_bad l _ _ h hc).mono ?_; rintro e w1 ⟨rfl, hb1⟩)
  go_ret2
  exact ⟨rfl, hb1⟩

set_option maxHeartbeats 4000000 in
set_option maxRecDepth 100000 in
theorem is_ok (l : List Op3) (v : Value) (w : World) (h : IsOps w v l) (hc : (chk l).2 = 0) :
    Calls Tryz.prog 16 #[v] w fun e w' => e = .returned (.tuple #[.bool (serB (doneL l)), .nilIface]) ∧ Below w.heap.size w w' := by
  have hl40 := chk_len (chk_done hc)
  have hdone := done_ok l v w h hc
  obtain ⟨d, hd⟩ : ∃ d, doneL l = d := ⟨_, rfl⟩
  rw [hd] at hdone hl40 ⊢
  have HD : Hid (Calls Tryz.prog 41 #[v] w fun e w' => ∃ v', e = .returned (.tuple #[v', .nilIface]) ∧ IsOps w' v' d ∧ Below w.heap.size w w') := hdone
  clear hd hc h hdone
  go_enter Tryz.func16, Tryz.ntmps16
  go_wp2_with fail
  refine HD.out.mono ?_
  rintro e w1 ⟨u, rfl, hI1, hb1⟩
  obtain ⟨ad, b, off, cap, rfl, ha, -, hbB, hops⟩ := hI1
  have HE : Hid (∀ W, Below w1.heap.size w1 W → ∀ k, k < d.length → ad = some ⟨b, off, none⟩ ∧ W.cell? ⟨b, off + k * 3, none⟩ = some (.int .i64 (opAt d k).1) ∧ W.cell? ⟨b, off + k * 3 + 1, none⟩ = some (.int .i64 (opAt d k).2.1)) := fun W hW k hk => by
    obtain ⟨h1, h2, _⟩ := (hops.below hW hbB) k hk
    exact ⟨ha (by omega), h1, h2⟩
  have HB1 : Hid (Below w.heap.size w w1) := hb1
  clear ha hbB hops hb1
  go_wp2_with fail
  go_loopw [6] (fun v6 wr => ∃ n : Nat, 1 ≤ n ∧ n ≤ d.length + 1 ∧ v6 = .int .i64 n ∧ badTo d n = 0 ∧ Below w1.heap.size w1 wr) (fun v6 _ => d.length + 1 - (intOf v6).toNat)
  case atStart => exact ⟨1, Nat.le_refl _, by omega, rfl, badTo_one d, Below.refl _ _⟩
  case round =>
    obtain ⟨n, hn1, hnl, rfl, hbad, hbel⟩ := hrel
    have HB : Hid (badTo d n = 0) := hbad
    clear hbad
    by_cases hlt : n < d.length
    · have hlt' : (n : Int) < (d.length : Int) := by omega
      obtain ⟨m, hm⟩ : ∃ m, n = m + 1 := ⟨n - 1, by omega⟩
      have hnm : (n : Int) - 1 = (m : Int) := by omega
      have hml : m < d.length := by omega
      have hwm : IntKind.i64.wrap (m : Int) = (m : Int) := by rw [IntKind.wrap_i64]; omega
      have HM : Hid (n = m + 1) := hm
      clear hm
      obtain ⟨hadr, p0, p1⟩ := HE.out wr hbel m hml
      subst hadr
      obtain ⟨_, q0, _⟩ := HE.out wr hbel n hlt
      obtain ⟨⟨t, a, i⟩, ho⟩ : ∃ o : Op3, opAt d m = o := ⟨_, rfl⟩
      obtain ⟨t2, ho2⟩ : ∃ t2, (opAt d n).1 = t2 := ⟨_, rfl⟩
      rw [ho] at p0 p1
      rw [ho2] at q0
      simp only at p0 p1
      have HA : Hid (badAt d n = ((t2 != t) && (a != 3))) := by
        show badAt d n = _
        unfold badAt
        rw [show n - 1 = m by have := HM.out; omega, ho, ho2]
      clear ho ho2
      cases hq : (t2 != t) with
      | false =>
        have HN : Hid (badTo d (n + 1) = 0) := by show badTo d (n + 1) = 0; rw [badTo_no (by rw [HA.out, hq]; rfl)]; exact HB.out
        go_wp2_with fail
        go_quiet (fail)
        go_wp2
        go_roundw
        case rel => exact ⟨n + 1, by omega, by omega, by go_num, HN.out, below_drewN hbel _⟩
        case measure => simp [intOf]; omega
      | true =>
        cases h3 : (a != 3) with
        | false =>
          have HN : Hid (badTo d (n + 1) = 0) := by show badTo d (n + 1) = 0; rw [badTo_no (by rw [HA.out, hq, h3]; rfl)]; exact HB.out
          go_wp2_with fail
          go_quiet (fail)
          go_wp2
          go_roundw
          case rel => exact ⟨n + 1, by omega, by omega, by go_num, HN.out, below_drewN hbel _⟩
          case measure => simp [intOf]; omega
        | true =>
          have HN : Hid (serB d = false) := serB_no (by omega) hlt (by rw [HA.out, hq, h3]; rfl)
          go_wp2_with fail
          go_quiet (fail)
          go_wp2
          go_ret2
          exact ⟨by rw [HN.out]; rfl, HB1.out.trans ((below_drewN hbel _).mono HB1.out.size)⟩
    · have hlt' : ¬ (n : Int) < (d.length : Int) := by omega
      have HN : Hid (serB d = true) := by
        show serB d = true
        have h1 := badTo_le d (show d.length ≤ n by omega)
        have h2 := HB.out
        unfold serB
        exact decide_eq_true (by omega)
      go_wp2_with fail
      go_ret2
      exact ⟨by rw [HN.out]; rfl, HB1.out.trans (hbel.mono HB1.out.size)⟩
end Go.Proofs.YtjaeaanpbdmfgabGreatDoor
