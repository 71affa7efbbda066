/-
  PROVED HERE: package valid's two rules, as package course calls them: what a Read sees, and whether one that asks to commit is aborted. Old memory stays as it was.
  Conditions: the deal has begun; the lists are short.
-/
import Derived.Test.YtccjognnehoodagCrsLast
namespace Go.Proofs.Ytccjognnehoodag
open Go.RowKit

/-- What a rule that tells whose Write is seen is asked. -/
def SeesC (N : Nat) (seesF : Crs → Int → Int → Int) : Prop := ∀ (w0 w : World) (R : Nat) (S F : Value) (q : Crs) (c : CLay) (t item : Int), CrsAt w0 w R S F q c → CrsOk 1000 q → 1 ≤ t → t ≤ 6 → (q.began t).isSome = true →
  Calls Try.prog N #[.pointer (some ⟨R, 0, none⟩), .int .i64 t, .int .i64 item] w fun e w' => e = .returned (.int .i64 (seesF q t item)) ∧ Below w.heap.size w w'
/-- What a rule that tells whether one is aborted is asked. -/
def FallC (N : Nat) (fallF : Crs → Int → Bool) : Prop := ∀ (w0 w : World) (R : Nat) (S F : Value) (q : Crs) (c : CLay) (t : Int), CrsAt w0 w R S F q c → CrsOk 1000 q → 1 ≤ t → t ≤ 6 → (q.began t).isSome = true →
  Calls Try.prog N #[.pointer (some ⟨R, 0, none⟩), .int .i64 t] w fun e w' => e = .returned (.bool (fallF q t)) ∧ Below w.heap.size w w'
/-- .. and of one that holds on to something that lay there before. -/
def FallK (K : World → Prop) (N : Nat) (B C : Array Value) (fallF : Crs → Int → Bool) : Prop := ∀ (w0 w : World) (R : Nat) (S F : Value) (q : Crs) (c : CLay) (t : Int), K w0 → CrsAt w0 w R S F q c → CrsOk 999 q → 1 ≤ t → t ≤ 6 → (q.began t).isSome = true →
  Calls Try.prog N (B ++ #[.pointer (some ⟨R, 0, none⟩), .int .i64 t] ++ C) w fun e w' => e = .returned (.bool (fallF q t)) ∧ Below w.heap.size w w'
theorem FallC.k {N : Nat} {fallF : Crs → Int → Bool} (h : FallC N fallF) : FallK (fun _ => True) N #[] #[] fallF := fun w0 w R S F q c t _ h1 h2 h3 h4 h5 => by
  rw [Array.append_empty, Array.empty_append]
  exact h w0 w R S F q c t h1 h2.more h3 h4 h5
theorem seesV_c : SeesC 26 seesV := by
  intro w0 w R S F q c t item h hq h1 h6 hb
  have HC := hid_q (last_crs h hq item)
  unfold seesV
  clear h hq h1 h6 hb
  go_enter Try.func26, Try.ntmps26
  go_wp2_with (go_at_call 44; refine HC.out.mono ?_; rintro e w1 ⟨rfl, hb1⟩)
  go_ret
  exact ⟨rfl, hb1⟩
/-- Did one write what this one read? -/
def staleB (q : Crs) (t o : Int) (x : Op3) : Bool := x.2.2 != t && inB (q.wrote o) x.2.1
set_option maxHeartbeats 4000000 in
set_option maxRecDepth 100000 in
theorem stale2_fn {w0 w : World} {R : Nat} {S F : Value} {q : Crs} {c : CLay} (h : CrsAt w0 w R S F q c) (hq : CrsOk 1000 q) (t o : Int) (x : Op3) (ho1 : 1 ≤ o) (ho6 : o ≤ 6) (P1 P2 P3 : Nat) (k1 : w.cell? ⟨P1, 0, none⟩ = some (.int .i64 t)) (k2 : w.cell? ⟨P2, 0, none⟩ = some (.pointer (some ⟨R, 0, none⟩))) (k3 : w.cell? ⟨P3, 0, none⟩ = some (.int .i64 o)) :
    Calls Try.prog 50 (#[seV x] ++ #[.pointer (some ⟨P1, 0, none⟩), .pointer (some ⟨P2, 0, none⟩), .pointer (some ⟨P3, 0, none⟩)]) w fun e w' => e = .returned (.bool (staleB q t o x)) ∧ Below w.heap.size w w' := by
  obtain ⟨a, i, f⟩ := x
  have HC : Hid (∀ W, Below w.heap.size w W → Calls Try.prog 51 #[.pointer (some ⟨R, 0, none⟩), .int .i64 o, .int .i64 i] W fun e w' => e = .returned (.bool (inB (q.wrote o) i)) ∧ w' = W) := fun W hW => wrote_crs (h.below hW) ho1 ho6 i (hq.lenW _)
  have l1 := World.block_lt_of_cell? w _ k1
  have l2 := World.block_lt_of_cell? w _ k2
  have l3 := World.block_lt_of_cell? w _ k3
  unfold seV staleB
  simp only at l1 l2 l3
  clear h hq
  cases hf : (f != t) with
  | false =>
    go_enter Try.func50, Try.ntmps50
    go_wp2_with fail
    go_ret
    exact ⟨rfl, (Below.refl _ w).alloc (Nat.le_refl _) _⟩
  | true =>
    go_enter Try.func50, Try.ntmps50
    go_wp2_with (go_at_call 51; refine (HC.out _ ((Below.refl _ w).alloc (Nat.le_refl _) _)).mono ?_; rintro e w1 ⟨rfl, hw1⟩; rw [hw1]; clear hw1)
    go_ret
    exact ⟨rfl, (Below.refl _ w).alloc (Nat.le_refl _) _⟩
theorem call_stale2 : ∀ (args : Array Value) (W : World), (callFunc 50 args).run Try.prog W = .ok (.enter 50 args) W := fun args W => by kernel_rfl
theorem call_stale1 : ∀ (args : Array Value) (W : World), (callFunc 48 args).run Try.prog W = .ok (.enter 48 args) W := fun args W => by kernel_rfl
set_option maxHeartbeats 4000000 in
set_option maxRecDepth 100000 in
theorem stale1_fn {w0 w : World} {R : Nat} {S F : Value} {q : Crs} {c : CLay} (h : CrsAt w0 w R S F q c) (hq : CrsOk 1000 q) (t o : Int) (ho1 : 1 ≤ o) (ho6 : o ≤ 6) (rd : List Op3) (v : Value) (hv : IsOps w v rd) (hrd : rd.length ≤ 1000) (P0 P1 P2 : Nat) (k0 : w.cell? ⟨P0, 0, none⟩ = some v) (k1 : w.cell? ⟨P1, 0, none⟩ = some (.int .i64 t)) (k2 : w.cell? ⟨P2, 0, none⟩ = some (.pointer (some ⟨R, 0, none⟩))) :
    Calls Try.prog 48 (#[.int .i64 o] ++ #[.pointer (some ⟨P0, 0, none⟩), .pointer (some ⟨P1, 0, none⟩), .pointer (some ⟨P2, 0, none⟩)]) w fun e w' => e = .returned (.bool (rd.any (staleB q t o))) ∧ Below w.heap.size w w' := by
  have l0 := World.block_lt_of_cell? w _ k0
  have l1 := World.block_lt_of_cell? w _ k1
  have l2 := World.block_lt_of_cell? w _ k2
  simp only at l0 l1 l2
  have HC : Hid (∀ W, Below w.heap.size w W → ∀ P3, W.cell? ⟨P3, 0, none⟩ = some (.int .i64 o) → Calls Try.prog 49 #[v, .func (.func 50) #[] #[.pointer (some ⟨P1, 0, none⟩), .pointer (some ⟨P2, 0, none⟩), .pointer (some ⟨P3, 0, none⟩)]] W fun r w' => r = .returned (.bool (rd.any (staleB q t o))) ∧ Below W.heap.size W w') := fun W hW P3 k3 => by
    refine contains_seen rd v _ _ _ W call_stale2 (hv.below hW (Nat.le_refl _)) (by omega) fun W2 hW2 e _ => ?_
    have hW3 : Below w.heap.size w W2 := hW.trans (hW2.mono hW.size)
    exact stale2_fn (h.below hW3) hq t o e ho1 ho6 P1 P2 P3 ((hW3.cell (p := ⟨P1, 0, none⟩) l1).trans k1) ((hW3.cell (p := ⟨P2, 0, none⟩) l2).trans k2) ((hW2.cell (p := ⟨P3, 0, none⟩) (World.block_lt_of_cell? W _ k3)).trans k3)
  obtain ⟨ad, b, off, cap, rfl, -⟩ := hv
  obtain ⟨n, hn⟩ : ∃ n, rd.length = n := ⟨_, rfl⟩
  rw [hn] at k0 HC
  clear h hq hrd hn
  go_enter Try.func48, Try.ntmps48
  go_wp2_with (go_at_call 49; refine (HC.out _ ((Below.refl _ w).alloc (Nat.le_refl _) _) w.heap.size (by simp)).mono ?_; rintro e w1 ⟨rfl, hb1⟩)
  go_ret
  exact ⟨rfl, ((Below.refl _ w).alloc (Nat.le_refl _) _).trans (hb1.mono (by simp))⟩
set_option maxHeartbeats 4000000 in
set_option maxRecDepth 100000 in
theorem fallV_c : FallC 27 fallV := by
  intro w0 w R S F q c t h hq h1 h6 hb
  obtain ⟨n, hn⟩ := Option.isSome_iff_exists.1 hb
  have e0 : fallV q t = (q.done.drop n).any fun o => (q.read t).any (staleB q t o) := by unfold fallV; rw [hn]; rfl
  rw [e0]
  have HR : Hid (∀ W, Below w.heap.size w W → Calls Try.prog 45 #[.pointer (some ⟨R, 0, none⟩), .int .i64 t] W fun e w' => ∃ v', e = .returned v' ∧ w'.ownsRow W.heap.size 60 3 v' (q.read t).length (flat (q.read t)) ∧ Below W.heap.size W w') := fun W hW => read_crs (h.below hW) h1 h6 (hq.lenR t)
  have HS : Hid (∀ W, Below w.heap.size w W → Calls Try.prog 47 #[.pointer (some ⟨R, 0, none⟩), .int .i64 t] W fun e w' => ∃ v', e = .returned v' ∧ IsInts w' v' (q.done.drop n) ∧ Below W.heap.size W w') := fun W hW => since_crs (h.below hW) h1 h6 hn (hq.cnt t n hn) hq.lenD
  have HC : Hid (∀ W, Below w.heap.size w W → ∀ u v P0 P1 P2, IsInts W u (q.done.drop n) → IsOps W v (q.read t) → W.cell? ⟨P0, 0, none⟩ = some v → W.cell? ⟨P1, 0, none⟩ = some (.int .i64 t) → W.cell? ⟨P2, 0, none⟩ = some (.pointer (some ⟨R, 0, none⟩)) → Calls Try.prog 46 #[u, .func (.func 48) #[] #[.pointer (some ⟨P0, 0, none⟩), .pointer (some ⟨P1, 0, none⟩), .pointer (some ⟨P2, 0, none⟩)]] W fun r w' => r = .returned (.bool ((q.done.drop n).any fun o => (q.read t).any (staleB q t o))) ∧ Below W.heap.size W w') := fun W hW u v P0 P1 P2 hu hv k0 k1 k2 => by
    refine contains_intC (q.done.drop n) u _ _ _ W call_stale1 hu (by have := hq.lenD; rw [List.length_drop]; omega) fun W2 hW2 e he => ?_
    have h6 := hq.six e (List.mem_of_mem_drop he)
    exact stale1_fn (h.below (hW.trans (hW2.mono hW.size))) hq t e h6.1 h6.2 (q.read t) v (hv.below hW2 (Nat.le_refl _)) (hq.lenR t) P0 P1 P2 ((hW2.cell (p := ⟨P0, 0, none⟩) (World.block_lt_of_cell? W _ k0)).trans k0) ((hW2.cell (p := ⟨P1, 0, none⟩) (World.block_lt_of_cell? W _ k1)).trans k1) ((hW2.cell (p := ⟨P2, 0, none⟩) (World.block_lt_of_cell? W _ k2)).trans k2)
  obtain ⟨N, hN⟩ : ∃ N, (q.read t).length = N := ⟨_, rfl⟩
  rw [hN] at HR
  have HN := hid_q hN
  clear h hq h1 h6 hb hn e0 hN
  go_enter Try.func27, Try.ntmps27
  obtain ⟨P, hP⟩ : ∃ P, w.heap.size = P := ⟨_, rfl⟩
  go_wp2_with fail
  obtain ⟨W, hW⟩ : ∃ W, W = (w.alloc (.cells #[.pointer (some ⟨R, 0, none⟩)] 62)).alloc (.cells #[.int .i64 t] 3) := ⟨_, rfl⟩
  rw [← hW]
  have hbW : Below w.heap.size w W := by rw [hW]; exact ((Below.refl _ w).alloc (Nat.le_refl _) _).alloc (by simp) _
  have k2 : W.cell? ⟨P, 0, none⟩ = some (.pointer (some ⟨R, 0, none⟩)) := by rw [hW, ← hP]; simp
  have k1 : W.cell? ⟨P + 1, 0, none⟩ = some (.int .i64 t) := by rw [hW, ← hP]; simp
  clear hW
  refine (HR.out W hbW).mono ?_
  rintro e w1 ⟨v1, rfl, ho1, hb1⟩
  obtain ⟨ad1, cp1, rfl, -⟩ := own_slice3 ho1
  have hops : IsOps w1 (.slice ad1 N cp1) (q.read t) := isOps_row ho1 HN.out
  have HB1 : Hid (Below w.heap.size w w1) := hbW.trans (hb1.mono hbW.size)
  have m2 := (hb1.cell (p := ⟨P, 0, none⟩) (World.block_lt_of_cell? W _ k2)).trans k2
  have m1 := (hb1.cell (p := ⟨P + 1, 0, none⟩) (World.block_lt_of_cell? W _ k1)).trans k1
  have HO := hid_q hops
  clear ho1 hb1 k1 k2 hbW hops
  have q2 := World.block_lt_of_cell? w1 _ m2
  have q1 := World.block_lt_of_cell? w1 _ m1
  simp only at q1 q2
  go_upto_region 2 with (fail)
  obtain ⟨W3, hW3⟩ : ∃ W, W = w1.alloc (.cells #[.slice ad1 N cp1] 26) := ⟨_, rfl⟩
  rw [← hW3]
  have hb3 : Below w1.heap.size w1 W3 := by rw [hW3]; exact (Below.refl _ w1).alloc (Nat.le_refl _) _
  have n0 : W3.cell? ⟨w1.heap.size, 0, none⟩ = some (.slice ad1 N cp1) := by rw [hW3]; simp
  have n2 := (hb3.cell (p := ⟨P, 0, none⟩) q2).trans m2
  have n1 := (hb3.cell (p := ⟨P + 1, 0, none⟩) q1).trans m1
  have HB3 : Hid (Below w.heap.size w W3) := HB1.out.trans (hb3.mono HB1.out.size)
  have HO3 := hid_q (HO.out.below hb3 (Nat.le_refl _))
  clear hW3 hb3 m1 m2 q1 q2
  obtain ⟨P5, hP5⟩ : ∃ P, P = w1.heap.size := ⟨_, rfl⟩
  rw [← hP5] at n0 ⊢
  clear hP5 hP
  go_wp2_with fail
  refine (HS.out W3 HB3.out).mono ?_
  rintro e w4 ⟨v4, rfl, hi4, hb4⟩
  have r0 := (hb4.cell (p := ⟨P5, 0, none⟩) (World.block_lt_of_cell? W3 _ n0)).trans n0
  have r2 := (hb4.cell (p := ⟨P, 0, none⟩) (World.block_lt_of_cell? W3 _ n2)).trans n2
  have r1 := (hb4.cell (p := ⟨P + 1, 0, none⟩) (World.block_lt_of_cell? W3 _ n1)).trans n1
  have HB4 : Hid (Below w.heap.size w w4) := HB3.out.trans (hb4.mono HB3.out.size)
  have HCC := hid_q (HC.out w4 HB4.out v4 (.slice ad1 N cp1) P5 (P + 1) P hi4 (HO3.out.below hb4 (Nat.le_refl _)) r0 r1 r2)
  clear hi4 hb4
  go_wp2_with fail
  refine HCC.out.mono ?_
  rintro e w5 ⟨rfl, hb5⟩
  go_wp2_with fail
  go_ret
  exact ⟨rfl, HB4.out.trans (hb5.mono HB4.out.size)⟩
end Go.Proofs.Ytccjognnehoodag
