/-
  PROVED HERE: package danger over a run of package course (as it lies in memory): whether one read what another one wrote; all such edges among deals, by From, then To. Old memory stays as it was.
  Conditions: the deals are 1 to 6 and have begun, the lists are short; what slices.Sort does is a premise of the last (SortC).
-/
import Derived.Test.YtccjognnehoodagCrsOnce
import Derived.Test.YtccjognnehoodagCrsDangP
import Derived.Test.YtccjognnehoodagMgbk
import Derived.Test.YtccjognnehoodagSortedInts
import Derived.Test.YtccjognnehoodagMgal
namespace Go.Proofs.Ytccjognnehoodag
open Go.RowKit

set_option maxHeartbeats 4000000 in
set_option maxRecDepth 100000 in
theorem read1_fn {w0 w : World} {R : Nat} {S F : Value} {q : Crs} {c : CLay} (h : CrsAt w0 w R S F q c) (hq : CrsOk 1000 q) (t o : Int) (x : Op3) (ho1 : 1 ≤ o) (ho6 : o ≤ 6) (P1 P2 P3 : Nat) (k1 : w.cell? ⟨P1, 0, none⟩ = some (.int .i64 t)) (k2 : w.cell? ⟨P2, 0, none⟩ = some (.pointer (some ⟨R, 0, none⟩))) (k3 : w.cell? ⟨P3, 0, none⟩ = some (.int .i64 o)) :
    Calls Try.prog 89 (#[seV x] ++ #[.pointer (some ⟨P1, 0, none⟩), .pointer (some ⟨P2, 0, none⟩), .pointer (some ⟨P3, 0, none⟩)]) w fun e w' => e = .returned (.bool (x.2.2 != t && inB (q.wrote o) x.2.1)) ∧ Below w.heap.size w w' := by
  obtain ⟨a, i, f⟩ := x
  have HC : Hid (∀ W, Below w.heap.size w W → Calls Try.prog 51 #[.pointer (some ⟨R, 0, none⟩), .int .i64 o, .int .i64 i] W fun e w' => e = .returned (.bool (inB (q.wrote o) i)) ∧ w' = W) := fun W hW => wrote_crs (h.below hW) ho1 ho6 i (hq.lenW _)
  have l1 := World.block_lt_of_cell? w _ k1
  have l2 := World.block_lt_of_cell? w _ k2
  have l3 := World.block_lt_of_cell? w _ k3
  unfold seV
  simp only at l1 l2 l3
  clear h hq
  cases hf : (f != t) with
  | false =>
    go_enter Try.func89, Try.ntmps89
    go_wp2_with fail
    go_ret
    exact ⟨rfl, (Below.refl _ w).alloc (Nat.le_refl _) _⟩
  | true =>
    go_enter Try.func89, Try.ntmps89
    go_wp2_with (go_at_call 51; refine (HC.out _ ((Below.refl _ w).alloc (Nat.le_refl _) _)).mono ?_; rintro e w1 ⟨rfl, hw1⟩; rw [hw1]; clear hw1)
    go_ret
    exact ⟨rfl, (Below.refl _ w).alloc (Nat.le_refl _) _⟩
theorem call_read1 : ∀ (args : Array Value) (W : World), (callFunc 89 args).run Try.prog W = .ok (.enter 89 args) W := fun args W => by kernel_rfl
set_option maxHeartbeats 4000000 in
set_option maxRecDepth 100000 in
theorem over_fn {w0 w : World} {R : Nat} {S F : Value} {q : Crs} {c : CLay} (h : CrsAt w0 w R S F q c) (hq : CrsOk 1000 q) {a b : Int} (ha1 : 1 ≤ a) (ha6 : a ≤ 6) (hb1 : 1 ≤ b) (hb6 : b ≤ 6) :
    Calls Try.prog 61 #[.pointer (some ⟨R, 0, none⟩), .int .i64 a, .int .i64 b] w fun e w' => e = .returned (.bool (overQ q a b)) ∧ Below w.heap.size w w' := by
  have HR : Hid (∀ W, Below w.heap.size w W → Calls Try.prog 45 #[.pointer (some ⟨R, 0, none⟩), .int .i64 a] W fun e w' => ∃ v', e = .returned v' ∧ w'.ownsRow W.heap.size 60 3 v' (q.read a).length (flat (q.read a)) ∧ Below W.heap.size W w') := fun W hW => read_crs (h.below hW) ha1 ha6 (hq.lenR a)
  have HC : Hid (∀ W, Below w.heap.size w W → ∀ v P1 P2 P3, IsOps W v (q.read a) → W.cell? ⟨P1, 0, none⟩ = some (.int .i64 a) → W.cell? ⟨P2, 0, none⟩ = some (.pointer (some ⟨R, 0, none⟩)) → W.cell? ⟨P3, 0, none⟩ = some (.int .i64 b) → Calls Try.prog 49 #[v, .func (.func 89) #[] #[.pointer (some ⟨P1, 0, none⟩), .pointer (some ⟨P2, 0, none⟩), .pointer (some ⟨P3, 0, none⟩)]] W fun r w' => r = .returned (.bool (overQ q a b)) ∧ Below W.heap.size W w') := fun W hW v P1 P2 P3 hv k1 k2 k3 => by
    refine contains_seen (q.read a) v (fun x => x.2.2 != a && inB (q.wrote b) x.2.1) _ _ W call_read1 hv (by have := hq.lenR a; omega) fun W2 hW2 e _ => ?_
    exact read1_fn (h.below (hW.trans (hW2.mono hW.size))) hq a b e hb1 hb6 P1 P2 P3 ((hW2.cell (p := ⟨P1, 0, none⟩) (World.block_lt_of_cell? W _ k1)).trans k1) ((hW2.cell (p := ⟨P2, 0, none⟩) (World.block_lt_of_cell? W _ k2)).trans k2) ((hW2.cell (p := ⟨P3, 0, none⟩) (World.block_lt_of_cell? W _ k3)).trans k3)
  obtain ⟨N, hN⟩ : ∃ N, (q.read a).length = N := ⟨_, rfl⟩
  rw [hN] at HR
  have HN := hid_q hN
  obtain ⟨r, hr⟩ : ∃ r, overQ q a b = r := ⟨_, rfl⟩
  rw [hr] at HC ⊢
  clear h hq ha1 ha6 hb1 hb6 hN hr
  go_enter Try.func61, Try.ntmps61
  obtain ⟨P, hP⟩ : ∃ P, w.heap.size = P := ⟨_, rfl⟩
  go_wp2_with fail
  obtain ⟨W, hW⟩ : ∃ W, W = ((w.alloc (.cells #[.pointer (some ⟨R, 0, none⟩)] 62)).alloc (.cells #[.int .i64 a] 3)).alloc (.cells #[.int .i64 b] 3) := ⟨_, rfl⟩
  rw [← hW]
  have hbW : Below w.heap.size w W := by rw [hW]; exact (((Below.refl _ w).alloc (Nat.le_refl _) _).alloc (by simp) _).alloc (by simp; omega) _
  have k2 : W.cell? ⟨P, 0, none⟩ = some (.pointer (some ⟨R, 0, none⟩)) := by rw [hW, ← hP]; exact (((Boxed.new w _ _).alloc _).alloc _).cell
  have k1 : W.cell? ⟨P + 1, 0, none⟩ = some (.int .i64 a) := by
    have := ((Boxed.new (w.alloc (.cells #[.pointer (some ⟨R, 0, none⟩)] 62)) 3 (.int .i64 a)).alloc (.cells #[.int .i64 b] 3)).cell
    rw [World.size_alloc, hP] at this
    rw [hW]; exact this
  have k3 : W.cell? ⟨P + 1 + 1, 0, none⟩ = some (.int .i64 b) := by
    have := (Boxed.new ((w.alloc (.cells #[.pointer (some ⟨R, 0, none⟩)] 62)).alloc (.cells #[.int .i64 a] 3)) 3 (.int .i64 b)).cell
    rw [World.size_alloc, World.size_alloc, hP] at this
    rw [hW]; exact this
  clear hW
  refine (HR.out W hbW).mono ?_
  rintro e w1 ⟨v1, rfl, ho1, hb1⟩
  obtain ⟨ad1, cp1, rfl, -⟩ := own_slice3 ho1
  have HB1 : Hid (Below w.heap.size w w1) := hbW.trans (hb1.mono hbW.size)
  have HCC := hid_q (HC.out w1 HB1.out (.slice ad1 N cp1) (P + 1) P (P + 1 + 1) (isOps_row ho1 HN.out) ((hb1.cell (p := ⟨P + 1, 0, none⟩) (World.block_lt_of_cell? W _ k1)).trans k1) ((hb1.cell (p := ⟨P, 0, none⟩) (World.block_lt_of_cell? W _ k2)).trans k2) ((hb1.cell (p := ⟨P + 1 + 1, 0, none⟩) (World.block_lt_of_cell? W _ k3)).trans k3))
  clear ho1 hb1 k1 k2 k3 hbW hP
  go_wp2_with fail
  refine HCC.out.mono ?_
  rintro e w5 ⟨rfl, hb5⟩
  go_wp2_with fail
  go_ret
  exact ⟨rfl, HB1.out.trans (hb5.mono HB1.out.size)⟩
end Go.Proofs.Ytccjognnehoodag
