/-
  PROVED HERE: slices.Index and slices.Contains of ops. Old memory stays as it was.
  Conditions: the list is not too long.
-/
import Derived.Test.YtjcaekhkeobhpahDoorOpIdx
import Derived.Deep.QuietTactic
import Derived.BigQuiet
import Derived.WalkSmall
import Derived.Deep.Cut
namespace Go.Proofs.YtjcaekhkeobhpahDoor
open Go.RowKit

theorem hid_oc {p : Prop} (h : p) : Hid p := h
theorem op_beq (t a i t2 a2 i2 : Int) : (((t, a, i) : Op3) == (t2, a2, i2)) = ((t == t2) && ((a == a2) && (i == i2))) := rfl
set_option maxHeartbeats 8000000 in
theorem index_opE (l : List Op3) (v : Value) (o : Op3) (w : World) (hI : IsOps w v l) (hlen : l.length ≤ 140737488351) :
    Calls Tryd.prog 51 #[v, opV o] w fun r w' => ∃ n : Int, r = .returned (.int .i64 n) ∧ decide (0 ≤ n) = l.any (fun e => o == e) ∧ Below w.heap.size w w' := by
  obtain ⟨t0, a0, i0⟩ := o
  obtain ⟨ad, b, off, cap, rfl, ha, _, hbB, hops⟩ := hI
  unfold opV
  go_enter Tryd.func51, Tryd.ntmps51
  go_upto_region 1 with (fail)
  obtain ⟨W, hW⟩ : ∃ W, W = w.alloc (.cells #[.int .i64 t0, .int .i64 a0, .int .i64 i0] 37) := ⟨_, rfl⟩
  rw [← hW]
  have hbW : Below w.heap.size w W := by rw [hW]; exact (Below.refl _ w).alloc (Nat.le_refl _) _
  have p0 : W.cell? ⟨w.heap.size, 0, none⟩ = some (.int .i64 t0) := by rw [hW]; simp
  have p1 : W.cell? ⟨w.heap.size, 1, none⟩ = some (.int .i64 a0) := by rw [hW]; simp
  have p2 : W.cell? ⟨w.heap.size, 2, none⟩ = some (.int .i64 i0) := by rw [hW]; simp
  obtain ⟨P, hP⟩ : ∃ P, P = w.heap.size := ⟨_, rfl⟩
  have HPW : Hid (P < W.heap.size) := by show P < _; rw [hP]; exact World.block_lt_of_cell? W _ p0
  rw [← hP] at p0 p1 p2 ⊢
  have HBW := hid_oc hbW
  have HO : Hid (∀ V, Below W.heap.size W V → V.cell? ⟨P, 0, none⟩ = some (.int .i64 t0) ∧ V.cell? ⟨P, 1, none⟩ = some (.int .i64 a0) ∧ V.cell? ⟨P, 2, none⟩ = some (.int .i64 i0) ∧ ∀ k, k < l.length → ad = some ⟨b, off, none⟩ ∧ V.cell? ⟨b, off + k * 3, none⟩ = some (.int .i64 (l.getD k (0, 0, 0)).1) ∧ V.cell? ⟨b, off + k * 3 + 1, none⟩ = some (.int .i64 (l.getD k (0, 0, 0)).2.1) ∧ V.cell? ⟨b, off + k * 3 + 2, none⟩ = some (.int .i64 (l.getD k (0, 0, 0)).2.2)) := fun V hV =>
    ⟨(hV.cell (p := ⟨P, 0, none⟩) HPW.out).trans p0, (hV.cell (p := ⟨P, 1, none⟩) HPW.out).trans p1, (hV.cell (p := ⟨P, 2, none⟩) HPW.out).trans p2, fun k hk => ⟨ha (by omega), (hops.below (HBW.out.trans (hV.mono HBW.out.size)) hbB) k hk⟩⟩
  clear hW hbW hP p0 p1 p2 ha hbB hops
  go_wp2
  go_loopw [5, 8] (fun _ v8 wr => ∃ k : Nat, k ≤ l.length ∧ v8 = .int .i64 k ∧ (l.take k).any (fun e => ((t0, a0, i0) : Op3) == e) = false ∧ Below W.heap.size W wr) (fun _ v8 _ => l.length - (intOf v8).toNat)
  case atStart => exact ⟨0, Nat.zero_le _, rfl, by simp, Below.refl _ _⟩
  case round =>
    obtain ⟨k, hk, rfl, hno, hbel⟩ := hrel
    have HNO := hid_oc hno
    have HBE : Hid (∀ n, Below w.heap.size w (wr.drewN n)) := fun n => HBW.out.trans ((below_drewN hbel n).mono HBW.out.size)
    have HBR : Hid (∀ n, Below W.heap.size W (wr.drewN n)) := fun n => below_drewN hbel n
    clear hno
    obtain ⟨q0, q1, q2, hat⟩ := HO.out wr hbel
    by_cases hlt : k < l.length
    · have hlt' : (k : Int) < (l.length : Int) := by omega
      obtain ⟨rfl, c0, c1, c2⟩ := hat k hlt
      obtain ⟨⟨t, a, i⟩, ho⟩ : ∃ o : Op3, l.getD k (0, 0, 0) = o := ⟨_, rfl⟩
      rw [ho] at c0 c1 c2
      have HM : Hid ((t, a, i) ∈ l) := by show _ ∈ l; rw [← ho]; exact getD_memO hlt
      have HT : Hid (l.take (k + 1) = l.take k ++ [(t, a, i)]) := by
        show l.take (k + 1) = l.take k ++ [(t, a, i)]
        rw [List.take_succ_eq_append_getElem hlt, ← ho]; simp [List.getD, List.getElem?_eq_getElem hlt]
      clear ho HO hat hbel
      simp only at c0 c1 c2
      by_cases he : ((t0, a0, i0) : Op3) = (t, a, i)
      · have HQ : Hid (l.any (fun e => ((t0, a0, i0) : Op3) == e) = true) := List.any_eq_true.2 ⟨_, HM.out, by simp [he]⟩
        simp only [Prod.mk.injEq] at he
        obtain ⟨rfl, rfl, rfl⟩ := he
        go_wp2_with fail
        go_quiet (fail)
        go_wp2_with fail
        go_ret
        exact ⟨_, rfl, by rw [HQ.out]; simp, HBE.out _⟩
      · have HQ : Hid ((((t0, a0, i0) : Op3) == (t, a, i)) = false) := by show _ = false; simpa using he
        have hq2 := HQ.out
        rw [op_beq] at hq2
        cases h1 : (t0 == t) with
        | false =>
          clear hq2 he
          go_wp2_with fail
          go_quiet (fail)
          go_wp2_with fail
          go_roundw
          case rel => exact ⟨k + 1, by omega, by go_num, noneO_snocC HT.out HNO.out HQ.out, HBR.out _⟩
          case measure => simp [intOf]; omega
        | true =>
          cases h2 : (a0 == a) with
          | false =>
            clear hq2 he
            go_wp2_with fail
            go_quiet (fail)
            go_wp2_with fail
            go_roundw
            case rel => exact ⟨k + 1, by omega, by go_num, noneO_snocC HT.out HNO.out HQ.out, HBR.out _⟩
            case measure => simp [intOf]; omega
          | true =>
            have h3 : (i0 == i) = false := by rw [h1, h2] at hq2; simpa using hq2
            clear hq2 he
            go_wp2_with fail
            go_quiet (fail)
            go_wp2_with fail
            go_roundw
            case rel => exact ⟨k + 1, by omega, by go_num, noneO_snocC HT.out HNO.out HQ.out, HBR.out _⟩
            case measure => simp [intOf]; omega
    · have hlt' : ¬ (k : Int) < (l.length : Int) := by omega
      have HB9 := hid_oc (HBW.out.trans (hbel.mono HBW.out.size))
      go_wp2_with fail
      go_ret
      have h0 := HNO.out
      rw [List.take_of_length_le (by omega)] at h0
      exact ⟨_, rfl, by rw [h0]; rfl, HB9.out⟩
set_option maxHeartbeats 4000000 in
theorem contains_opE (l : List Op3) (v : Value) (o : Op3) (w : World) (hI : IsOps w v l) (hlen : l.length ≤ 140737488351) :
    Calls Tryd.prog 42 #[v, opV o] w fun r w' => r = .returned (.bool (l.contains o)) ∧ Below w.heap.size w w' := by
  have HC : Hid (∀ W, Below w.heap.size w W → Calls Tryd.prog 51 #[v, opV o] W fun r w' => ∃ n : Int, r = .returned (.int .i64 n) ∧ decide (0 ≤ n) = l.contains o ∧ Below W.heap.size W w') := fun W hW => (index_opE l v o W (hI.below hW (Nat.le_refl _)) hlen).mono fun _ _ ⟨n, h1, h2, h3⟩ => ⟨n, h1, by rw [h2, Bool.eq_iff_iff, List.any_eq_true, List.contains_iff_mem]; exact ⟨fun ⟨e, he, hb⟩ => by rw [beq_iff_eq] at hb; rw [hb]; exact he, fun h => ⟨o, h, by simp⟩⟩, h3⟩
  obtain ⟨t0, a0, i0⟩ := o
  obtain ⟨ad, b, off, cap, rfl, -⟩ := hI
  obtain ⟨g, hg⟩ : ∃ g, l.contains (t0, a0, i0) = g := ⟨_, rfl⟩
  rw [hg] at HC ⊢
  unfold opV at HC ⊢
  simp only at HC
  clear hg hlen
  go_enter Tryd.func42, Tryd.ntmps42
  go_upto_region 1 with (fail)
  obtain ⟨W, hW⟩ : ∃ W, W = w.alloc (.cells #[.int .i64 t0, .int .i64 a0, .int .i64 i0] 37) := ⟨_, rfl⟩
  rw [← hW]
  have HBW : Hid (Below w.heap.size w W) := by show Below _ _ _; rw [hW]; exact (Below.refl _ w).alloc (Nat.le_refl _) _
  have p0 : W.cell? ⟨w.heap.size, 0, none⟩ = some (.int .i64 t0) := by rw [hW]; simp
  have p1 : W.cell? ⟨w.heap.size, 1, none⟩ = some (.int .i64 a0) := by rw [hW]; simp
  have p2 : W.cell? ⟨w.heap.size, 2, none⟩ = some (.int .i64 i0) := by rw [hW]; simp
  clear hW
  go_wp2_with fail
  refine (HC.out W HBW.out).mono ?_
  rintro e w1 ⟨n, rfl, hn, hb1⟩
  have HB1 : Hid (Below w.heap.size w w1) := HBW.out.trans (hb1.mono HBW.out.size)
  clear hb1 p0 p1 p2
  go_wp2_with fail
  go_ret
  exact ⟨rfl, HB1.out⟩
end Go.Proofs.YtjcaekhkeobhpahDoor
