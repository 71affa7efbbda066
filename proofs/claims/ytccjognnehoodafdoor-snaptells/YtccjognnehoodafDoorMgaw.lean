/-
  PROVED HERE: lanesame.Ints says yes of two slices that hold the same list of numbers; nothing turns but the count of draws.
  Conditions: none.
  PROVED HERE: lanesame.Outcome says yes of two outcomes that hold the same lists. Old memory stays as it was.
  Conditions: the lists are short.
-/
import Derived.Test.YtccjognnehoodafDoorMgaf
import Derived.Deep.QuietTactic
import Derived.BigQuiet
import Derived.WalkSmall
import Derived.Test.YtccjognnehoodafDoorMgae
import Derived.Test.YtccjognnehoodafDoorMgah
import Derived.Deep.Cut
namespace Go.Proofs.YtccjognnehoodafDoor
open Go.RowKit

set_option maxHeartbeats 4000000 in
theorem same_ints (l : List Int) (v u : Value) (w : World) (hv : IsInts w v l) (hu : IsInts w u l) (hlen : l.length ≤ 140737488351) :
    Calls Tryd.prog 42 #[v, u] w fun e w' => e = .returned (.bool true) ∧ Below w.heap.size w w' := by
  have hv' := hv
  have hu' := hu
  obtain ⟨ad, b, off, cap, rfl, ha, _, hbB, hc⟩ := hv
  obtain ⟨ad2, b2, off2, cap2, rfl, ha2, _, hbB2, hc2⟩ := hu
  have H : Hid (∀ k, k < l.length → ad = some ⟨b, off, none⟩ ∧ ad2 = some ⟨b2, off2, none⟩ ∧ b < w.heap.size ∧ b2 < w.heap.size ∧ w.cell? ⟨b, off + k, none⟩ = some (.int .i64 (l.getD k 0)) ∧ w.cell? ⟨b2, off2 + k, none⟩ = some (.int .i64 (l.getD k 0))) := fun k hk => by
    refine ⟨ha (by omega), ha2 (by omega), ?_, ?_, hc k hk, hc2 k hk⟩
    · rcases hbB with h | h
      · exact h
      · subst h; simp at hk
    · rcases hbB2 with h | h
      · exact h
      · subst h; simp at hk
  clear hv' hu' ha ha2 hbB hbB2 hc hc2
  go_enter Tryd.func42, Tryd.ntmps42
  go_wp2
  go_loopw [5] (fun v5 wr => ∃ k : Nat, k ≤ l.length ∧ v5 = .int .i64 k ∧ Below w.heap.size w wr) (fun v5 _ => l.length - (intOf v5).toNat)
  case atStart => exact ⟨0, Nat.zero_le _, rfl, Below.refl _ _⟩
  case round =>
    obtain ⟨k, hk, rfl, hbel⟩ := hrel
    by_cases hlt : k < l.length
    · obtain ⟨e1, e2, h1, h2, c1, c2⟩ := H.out k hlt
      subst e1 e2
      rw [← hbel.cell (p := ⟨b, off + k, none⟩) h1] at c1
      rw [← hbel.cell (p := ⟨b2, off2 + k, none⟩) h2] at c2
      obtain ⟨x, hx⟩ : ∃ x, l.getD k 0 = x := ⟨_, rfl⟩
      rw [hx] at c1 c2
      clear hx H
      go_wp2
      go_quiet (fail)
      go_wp2
      go_roundw
      case rel => exact ⟨k + 1, by omega, by go_num, below_drewN hbel _⟩
      case measure => simp [intOf]; omega
    · go_wp2
      go_ret
      exact ⟨rfl, hbel⟩
end Go.Proofs.YtccjognnehoodafDoor

namespace Go.Proofs.YtccjognnehoodafDoor
open Go.RowKit

theorem hid_o {p : Prop} (h : p) : Hid p := h
set_option maxHeartbeats 8000000 in
set_option maxRecDepth 100000 in
theorem same_outcome (ds : List Int) (se : List Op3) (la : List Int) (a1 a2 a3 b1 b2 b3 : Value) (w : World) (h1 : IsInts w a1 ds) (h2 : IsOps w a2 se) (h3 : IsInts w a3 la) (g1 : IsInts w b1 ds) (g2 : IsOps w b2 se) (g3 : IsInts w b3 la) (hd : ds.length ≤ 1000) (hs : se.length ≤ 1000) (hl : la.length ≤ 1000) :
    Calls Tryd.prog 19 #[.agg #[a1, a2, a3], .agg #[b1, b2, b3]] w fun e w' => e = .returned (.bool true) ∧ Below w.heap.size w w' := by
  have HI1 : Hid (∀ W, Below w.heap.size w W → Calls Tryd.prog 42 #[a1, b1] W fun e w' => e = .returned (.bool true) ∧ Below W.heap.size W w') := fun W hW => same_ints ds a1 b1 W (h1.below hW (Nat.le_refl _)) (g1.below hW (Nat.le_refl _)) (by omega)
  have HI3 : Hid (∀ W, Below w.heap.size w W → Calls Tryd.prog 42 #[a3, b3] W fun e w' => e = .returned (.bool true) ∧ Below W.heap.size W w') := fun W hW => same_ints la a3 b3 W (h3.below hW (Nat.le_refl _)) (g3.below hW (Nat.le_refl _)) (by omega)
  obtain ⟨ad, b, off, cap, rfl, ha, _, hbB, hops⟩ := h2
  obtain ⟨ad2, b2', off2, cap2, rfl, ha2, _, hbB2, hops2⟩ := g2
  have HO : Hid (∀ W, Below w.heap.size w W → ∀ k, k < se.length → (ad = some ⟨b, off, none⟩ ∧ ad2 = some ⟨b2', off2, none⟩) ∧ (W.cell? ⟨b, off + k * 3, none⟩ = some (.int .i64 (opAt se k).1) ∧ W.cell? ⟨b, off + k * 3 + 1, none⟩ = some (.int .i64 (opAt se k).2.1) ∧ W.cell? ⟨b, off + k * 3 + 2, none⟩ = some (.int .i64 (opAt se k).2.2)) ∧ (W.cell? ⟨b2', off2 + k * 3, none⟩ = some (.int .i64 (opAt se k).1) ∧ W.cell? ⟨b2', off2 + k * 3 + 1, none⟩ = some (.int .i64 (opAt se k).2.1) ∧ W.cell? ⟨b2', off2 + k * 3 + 2, none⟩ = some (.int .i64 (opAt se k).2.2))) := fun W hW k hk => ⟨⟨ha (by omega), ha2 (by omega)⟩, (hops.below hW hbB) k hk, (hops2.below hW hbB2) k hk⟩
  obtain ⟨W, hW⟩ : ∃ W, W = (w.alloc (.cells #[a1, .slice ad se.length cap, a3] 26)).alloc (.cells #[b1, .slice ad2 se.length cap2, b3] 26) := ⟨_, rfl⟩
  have hBW : Below w.heap.size w W := by rw [hW]; exact ((Below.refl _ w).alloc (Nat.le_refl _) _).alloc (by simp) _
  have HC : Hid (∀ V, Below W.heap.size W V → V.cell? ⟨w.heap.size, 0, none⟩ = some a1 ∧ V.cell? ⟨w.heap.size, 1, none⟩ = some (.slice ad se.length cap) ∧ V.cell? ⟨w.heap.size, 2, none⟩ = some a3 ∧ V.cell? ⟨w.heap.size + 1, 0, none⟩ = some b1 ∧ V.cell? ⟨w.heap.size + 1, 1, none⟩ = some (.slice ad2 se.length cap2) ∧ V.cell? ⟨w.heap.size + 1, 2, none⟩ = some b3) := fun V hV => by
    have hs1 : w.heap.size < W.heap.size := by rw [hW]; simp; omega
    have hs2 : w.heap.size + 1 < W.heap.size := by rw [hW]; simp
    refine ⟨(hV.cell (p := ⟨w.heap.size, 0, none⟩) hs1).trans ?_, (hV.cell (p := ⟨w.heap.size, 1, none⟩) hs1).trans ?_, (hV.cell (p := ⟨w.heap.size, 2, none⟩) hs1).trans ?_, (hV.cell (p := ⟨w.heap.size + 1, 0, none⟩) hs2).trans ?_, (hV.cell (p := ⟨w.heap.size + 1, 1, none⟩) hs2).trans ?_, (hV.cell (p := ⟨w.heap.size + 1, 2, none⟩) hs2).trans ?_⟩ <;> rw [hW] <;> simp
  have HB : Hid (∀ V, Below W.heap.size W V → Below w.heap.size w V) := fun V hV => hBW.trans (hV.mono hBW.size)
  clear h1 h3 g1 g3 ha ha2 hbB hbB2 hops hops2 hBW
  go_enter Tryd.func19, Tryd.ntmps19
  go_upto_region 1 with (fail)
  rw [← hW]
  clear hW
  obtain ⟨c0, c1, c2, e0, e1, e2⟩ := HC.out W (Below.refl _ _)
  go_wp2_with fail
  refine (HI1.out W (HB.out _ (Below.refl _ _))).mono ?_
  rintro e w1 ⟨rfl, hb1⟩
  obtain ⟨c0', c1', c2', e0', e1', e2'⟩ := HC.out w1 hb1
  clear c0 c1 c2 e0 e1 e2
  go_wp2_with fail
  refine (HI3.out w1 (HB.out _ hb1)).mono ?_
  rintro e w2 ⟨rfl, hb2⟩
  have hb12 : Below W.heap.size W w2 := hb1.trans (hb2.mono hb1.size)
  have HB12 := hid_o hb12
  obtain ⟨c0, c1, c2, e0, e1, e2⟩ := HC.out w2 hb12
  clear c0' c1' c2' e0' e1' e2' hb1 hb2 hb12
  go_wp2_with fail
  go_loopw [7] (fun v7 wr => ∃ k : Nat, k ≤ se.length ∧ v7 = .int .i64 k ∧ Below W.heap.size W wr) (fun v7 _ => se.length - (intOf v7).toNat)
  case atStart => exact ⟨0, Nat.zero_le _, rfl, HB12.out⟩
  case round =>
    obtain ⟨k, hk, rfl, hbel⟩ := hrel
    obtain ⟨-, f1, -, -, q1, -⟩ := HC.out wr hbel
    clear c0 c1 c2 e0 e1 e2
    by_cases hlt : k < se.length
    · have hlt' : (k : Int) < (se.length : Int) := by omega
      obtain ⟨⟨rfl, rfl⟩, ⟨c0, c1, c2⟩, d0, d1, d2⟩ := HO.out wr (HB.out _ hbel) k hlt
      obtain ⟨⟨t, a, i⟩, ho⟩ : ∃ o : Op3, opAt se k = o := ⟨_, rfl⟩
      rw [ho] at c0 c1 c2 d0 d1 d2
      simp only at c0 c1 c2 d0 d1 d2
      clear ho
      go_wp2_with fail
      go_quiet (fail)
      go_wp2_with fail
      go_roundw
      case rel => exact ⟨k + 1, by omega, by go_num, below_drewN hbel _⟩
      case measure => simp [intOf]; omega
    · have hlt' : ¬ (k : Int) < (se.length : Int) := by omega
      go_wp2_with fail
      go_ret
      exact ⟨rfl, HB.out _ hbel⟩
end Go.Proofs.YtccjognnehoodafDoor
