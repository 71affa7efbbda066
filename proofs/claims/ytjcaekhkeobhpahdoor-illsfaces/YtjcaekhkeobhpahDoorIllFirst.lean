/-
  PROVED HERE: package ills' First keeps what it is asked (IllsFirstC). Old memory stays as it was.
  Conditions: none.
-/
import Derived.Test.YtjcaekhkeobhpahDoorIllEnd
import Derived.Test.YtjcaekhkeobhpahDoorIllsAsk
namespace Go.Proofs.YtjcaekhkeobhpahDoor
open Go.RowKit

theorem least_snoc (n : Int) (es : List Edge2) (e : Edge2) : leastE n (es ++ [e]) = if e.2 < leastE n es then e.2 else leastE n es := by
  unfold leastE
  rw [List.foldl_append]
  rfl
theorem least_take {n : Int} {es : List Edge2} {k : Nat} {e : Edge2} (hk : k < es.length) (he : es.getD k (0, 0) = e) : leastE n (es.take (k + 1)) = if e.2 < leastE n (es.take k) then e.2 else leastE n (es.take k) := by
  rw [List.take_succ_eq_append_getElem hk, least_snoc, ← he]
  simp [List.getD, List.getElem?_eq_getElem hk]
theorem open_in {l : List Op3} : ∀ e ∈ openL l, ∃ i j : Nat, i < j ∧ j < l.length ∧ e = ((i : Int), (j : Int)) := fun e he => by
  obtain ⟨i, j, h1, h2, _, h3⟩ := mem_pairs.1 (List.mem_filter.1 he).1
  exact ⟨i, j, h1, h2, h3⟩
theorem slice_of {w : World} {v : Value} {es : List Edge2} (h : IsEdges w v es) : ∃ ad cap, v = .slice ad es.length cap := by
  obtain ⟨ad, _, _, cap, hv, _⟩ := h
  exact ⟨ad, cap, hv⟩
set_option maxHeartbeats 8000000 in
theorem first_bad (l : List Op3) (ad : Option Addr) (cap : Nat) (w : World) (h : IsOps w (.slice ad l.length cap) l) (hc : (chk l).2 ≠ 0) :
    Calls Tryd.prog 10 #[.slice ad l.length cap] w fun e w' => e = .returned (.tuple #[.int .i64 0, .iface 59 (.int .i64 (chk l).2)]) ∧ Below w.heap.size w w' := by
  have HOP := hid_e (openPairs_bad l _ w h hc)
  obtain ⟨m, hm⟩ : ∃ m, (chk l).2 = m := ⟨_, rfl⟩
  rw [hm] at HOP ⊢
  clear hm hc h
  go_enter Tryd.func10, Tryd.ntmps10
  go_wp2_with fail
  refine HOP.out.mono ?_
  rintro e w1 ⟨rfl, hb1⟩
  go_wp2_with fail
  go_ret2
  exact ⟨rfl, hb1⟩
set_option maxHeartbeats 8000000 in
theorem first_ok (l : List Op3) (ad : Option Addr) (cap : Nat) (w : World) (h : IsOps w (.slice ad l.length cap) l) (hcap : l.length ≤ cap) (hc : (chk l).2 = 0) :
    Calls Tryd.prog 10 #[.slice ad l.length cap] w fun e w' => e = .returned (if openL l = [] then .tuple #[.int .i64 0, .iface 59 (.int .i64 5)] else .tuple #[.int .i64 (leastE l.length (openL l)), .nilIface]) ∧ Below w.heap.size w w' := by
  have HOP := hid_e (openPairs_ok l ad cap w h hcap hc)
  have hlen : (openL l).length ≤ 1600 := pairsL_len2 (chk_len hc)
  obtain ⟨n, hn⟩ : ∃ n, l.length = n := ⟨_, rfl⟩
  obtain ⟨es, hes⟩ : ∃ es, openL l = es := ⟨_, rfl⟩
  rw [hn] at HOP ⊢
  rw [hes] at HOP hlen ⊢
  clear hn hes hc h hcap
  go_enter Tryd.func10, Tryd.ntmps10
  go_wp2_with fail
  refine HOP.out.mono ?_
  rintro e w1 ⟨v, rfl, hE, hb1⟩
  obtain ⟨b, off, qad, qcap, rfl, hO⟩ : ∃ b off qad qcap, v = .slice qad es.length qcap ∧ ∀ W, Below w1.heap.size w1 W → ∀ k, k < es.length → qad = some ⟨b, off, none⟩ ∧ W.cell? ⟨b, off + k * 2, none⟩ = some (.int .i64 (es.getD k (0, 0)).1) ∧ W.cell? ⟨b, off + k * 2 + 1, none⟩ = some (.int .i64 (es.getD k (0, 0)).2) := by
    obtain ⟨qad, b, off, qcap, hv, ha, _, hbB, hops⟩ := hE
    exact ⟨b, off, qad, qcap, hv, fun W hW k hk => ⟨ha (by omega), (hops.below hW hbB) k hk⟩⟩
  have HO := hid_e hO
  have HB1 := hid_e hb1
  clear hE hb1 hO HOP
  by_cases h0 : es = []
  · subst h0
    go_wp2_with fail
    go_ret2
    exact ⟨rfl, HB1.out⟩
  · have hp : 0 < es.length := List.length_pos_iff.2 h0
    have h0' : ((es.length : Int) == 0) = false := by simpa using h0
    have HN0 := hid_e h0
    clear h0
    go_wp2_with fail
    go_loopw [6, 8, 25] (fun v6 _ v25 wr => ∃ k : Nat, k ≤ es.length ∧ v25 = .int .i64 k ∧ v6 = .int .i64 (leastE n (es.take k)) ∧ Below w1.heap.size w1 wr) (fun _ _ v25 _ => es.length - (intOf v25).toNat)
    case atStart => exact ⟨0, Nat.zero_le _, rfl, by simp [leastE], Below.refl _ _⟩
    case round =>
      obtain ⟨k, hk, rfl, rfl, hbel⟩ := hrel
      by_cases hlt : k < es.length
      · have hlt' : (k : Int) < (es.length : Int) := by omega
        obtain ⟨rfl, c0, c1⟩ := HO.out wr hbel k hlt
        obtain ⟨⟨t, a⟩, ho⟩ : ∃ o : Edge2, es.getD k (0, 0) = o := ⟨_, rfl⟩
        rw [ho] at c0 c1
        simp only at c0 c1
        have HL := hid_e (least_take (n := n) hlt ho)
        obtain ⟨m, hm⟩ : ∃ m, leastE n (es.take k) = m := ⟨_, rfl⟩
        rw [hm] at HL ⊢
        have HBX : Hid (Below w1.heap.size w1 (wr.alloc (.cells #[.int .i64 t, .int .i64 a] 55))) := hbel.alloc hbel.size _
        clear ho hm HO
        by_cases ham : a < m
        · have hmin : min m a = a := by omega
          go_wp2_with fail
          go_roundw
          case rel => exact ⟨k + 1, by omega, by go_num, by rw [HL.out]; simp [ham] <;> omega, HBX.out⟩
          case measure => simp [intOf]; omega
        · have hmin : min m a = m := by omega
          go_wp2_with fail
          go_roundw
          case rel => exact ⟨k + 1, by omega, by go_num, by rw [HL.out]; simp [ham] <;> omega, HBX.out⟩
          case measure => simp [intOf]; omega
      · have hlt' : ¬ (k : Int) < (es.length : Int) := by omega
        have HT : Hid (es.take k = es) := List.take_of_length_le (by omega)
        have HBX := hid_e (HB1.out.trans (hbel.mono HB1.out.size))
        clear hbel
        go_wp2_with fail
        go_ret2
        exact ⟨by rw [HT.out]; rfl, HBX.out⟩
theorem illsFirstC : IllsFirstC := by
  intro l ad cap w h hcap
  by_cases hc : (chk l).2 = 0
  · obtain ⟨f1, f2⟩ := first_open hc
    refine (first_ok l ad cap w h hcap hc).mono fun e w' ⟨he, hw⟩ => ⟨?_, hw⟩
    have hF : firstU l = if firstTo l l.length < 0 then (0, 5) else (firstTo l l.length, 0) := by unfold firstU illsR; rw [if_neg (by rw [hc]; decide)]
    rw [he, hF]
    by_cases h0 : openL l = []
    · rw [if_pos h0, f1 h0]; rfl
    · rw [if_neg h0, f2 h0]
      have hpos : ¬ leastE l.length (openL l) < 0 := by
        rcases (least_spec l.length (openL l)).1 with e1 | ⟨x, hx, e1⟩
        · rw [e1]; omega
        · obtain ⟨i, j, _, _, rfl⟩ := open_in x hx
          rw [e1]; simp only; omega
      rw [if_neg hpos]; rfl
  · refine (first_bad l ad cap w h hc).mono fun e w' ⟨he, hw⟩ => ⟨?_, hw⟩
    rw [he]
    unfold firstU errV
    rw [if_pos hc]
    simp only
    rw [if_neg hc]
end Go.Proofs.YtjcaekhkeobhpahDoor
