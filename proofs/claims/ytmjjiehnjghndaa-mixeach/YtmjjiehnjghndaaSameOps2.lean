/-
  PROVED HERE: lanesame.Ops says of any two lists of ops whether they are one; old memory stays as it was.
  Conditions: the lists are not too long.
-/
import Derived.Test.YtmjjiehnjghndaaMgaf
import Derived.Deep.QuietTactic
import Derived.BigQuiet
import Derived.WalkSmall
namespace Go.Proofs.Ytmjjiehnjghndaa
open Go.RowKit

theorem hid_so {p : Prop} (h : p) : Hid p := h
theorem ops_beqS (t a i t2 a2 i2 : Int) : (((t, a, i) : Op3) == (t2, a2, i2)) = ((t == t2) && ((a == a2) && (i == i2))) := rfl
set_option maxHeartbeats 8000000 in
theorem same_ops2 (l m : List Op3) (v u : Value) (w : World) (hv : IsOps w v l) (hu : IsOps w u m) (hlen : l.length ≤ 140737488351) (hlen2 : m.length ≤ 140737488351) :
    Calls Try.prog 9 #[v, u] w fun e w' => e = .returned (.bool (decide (l = m))) ∧ Below w.heap.size w w' := by
  obtain ⟨ad, b, off, cap, rfl, ha, _, hbB, hops⟩ := hv
  obtain ⟨ad2, b2, off2, cap2, rfl, ha2, _, hbB2, hops2⟩ := hu
  by_cases hll : l.length = m.length
  · have hll' : ((l.length : Int) != (m.length : Int)) = false := by simp [hll]
    have H : Hid (∀ W, Below w.heap.size w W → ∀ k, k < l.length → ad = some ⟨b, off, none⟩ ∧ ad2 = some ⟨b2, off2, none⟩ ∧ (W.cell? ⟨b, off + k * 3, none⟩ = some (.int .i64 (l.getD k (0, 0, 0)).1) ∧ W.cell? ⟨b, off + k * 3 + 1, none⟩ = some (.int .i64 (l.getD k (0, 0, 0)).2.1) ∧ W.cell? ⟨b, off + k * 3 + 2, none⟩ = some (.int .i64 (l.getD k (0, 0, 0)).2.2)) ∧ (W.cell? ⟨b2, off2 + k * 3, none⟩ = some (.int .i64 (m.getD k (0, 0, 0)).1) ∧ W.cell? ⟨b2, off2 + k * 3 + 1, none⟩ = some (.int .i64 (m.getD k (0, 0, 0)).2.1) ∧ W.cell? ⟨b2, off2 + k * 3 + 2, none⟩ = some (.int .i64 (m.getD k (0, 0, 0)).2.2))) := fun W hW k hk => ⟨ha (by omega), ha2 (by omega), (hops.below hW hbB) k hk, (hops2.below hW hbB2) k (by omega)⟩
    clear ha ha2 hbB hbB2 hops hops2
    go_enter Try.func9, Try.ntmps9
    go_wp2
    go_loopw [5] (fun v5 wr => ∃ k : Nat, k ≤ l.length ∧ v5 = .int .i64 k ∧ l.take k = m.take k ∧ Below w.heap.size w wr) (fun v5 _ => l.length - (intOf v5).toNat)
    case atStart => exact ⟨0, Nat.zero_le _, rfl, by simp, Below.refl _ _⟩
    case round =>
      obtain ⟨k, hk, rfl, heq, hbel⟩ := hrel
      have HEQ := hid_so heq
      clear heq
      by_cases hlt : k < l.length
      · have hlt' : (k : Int) < (l.length : Int) := by omega
        have hlt2 : (k : Int) < (m.length : Int) := by omega
        obtain ⟨rfl, rfl, ⟨c0, c1, c2⟩, d0, d1, d2⟩ := H.out wr hbel k hlt
        obtain ⟨⟨t, a, i⟩, ho⟩ : ∃ o : Op3, l.getD k (0, 0, 0) = o := ⟨_, rfl⟩
        obtain ⟨⟨t2, a2, i2⟩, ho2⟩ : ∃ o : Op3, m.getD k (0, 0, 0) = o := ⟨_, rfl⟩
        rw [ho] at c0 c1 c2
        rw [ho2] at d0 d1 d2
        simp only at c0 c1 c2 d0 d1 d2
        have g1 : l[k] = (t, a, i) := by rw [← ho]; simp [List.getD, List.getElem?_eq_getElem hlt]
        have hm : k < m.length := by omega
        have g2 : m[k] = (t2, a2, i2) := by rw [← ho2]; simp [List.getD, List.getElem?_eq_getElem hm]
        have HB : Hid (∀ n, Below w.heap.size w (wr.drewN n)) := fun n => below_drewN hbel n
        by_cases he : ((t, a, i) : Op3) = (t2, a2, i2)
        · have HT : Hid (l.take (k + 1) = m.take (k + 1)) := by show _ = _; rw [List.take_succ_eq_append_getElem hlt, List.take_succ_eq_append_getElem hm, g1, g2, he, HEQ.out]
          simp only [Prod.mk.injEq] at he
          obtain ⟨rfl, rfl, rfl⟩ := he
          clear ho ho2 H g1 g2 hbel
          go_wp2
          go_quiet (fail)
          go_wp2
          go_roundw
          case rel => exact ⟨k + 1, by omega, by go_num, HT.out, HB.out _⟩
          case measure => simp [intOf]; omega
        · have HN : Hid (decide (l = m) = false) := by
            show decide _ = false
            refine decide_eq_false fun e => he ?_
            subst e
            rw [← g1, ← g2]
          have hq : (((t, a, i) : Op3) == (t2, a2, i2)) = false := by simpa using he
          rw [ops_beqS] at hq
          clear ho ho2 H g1 g2 hbel he
          cases h1 : (t == t2) with
          | false =>
            clear hq
            go_wp2
            go_quiet (fail)
            go_wp2
            go_ret
            exact ⟨ret_bool HN.out.symm, HB.out _⟩
          | true =>
            cases h2 : (a == a2) with
            | false =>
              clear hq
              go_wp2
              go_quiet (fail)
              go_wp2
              go_ret
              exact ⟨ret_bool HN.out.symm, HB.out _⟩
            | true =>
              have h3 : (i == i2) = false := by rw [h1, h2] at hq; simpa using hq
              clear hq
              go_wp2
              go_quiet (fail)
              go_wp2
              go_ret
              exact ⟨ret_bool HN.out.symm, HB.out _⟩
      · have HE : Hid (decide (l = m) = true) := by
          have h0 := HEQ.out
          rw [List.take_of_length_le (by omega), List.take_of_length_le (by omega)] at h0
          exact decide_eq_true h0
        go_wp2
        go_ret
        exact ⟨ret_bool HE.out.symm, hbel⟩
  · have hll' : ((l.length : Int) != (m.length : Int)) = true := by simp; omega
    have hN : decide (l = m) = false := decide_eq_false fun e => hll (by rw [e])
    rw [hN]
    go_enter Try.func9, Try.ntmps9
    go_wp2
    go_ret
    exact ⟨rfl, Below.refl _ _⟩
end Go.Proofs.Ytmjjiehnjghndaa
