/-
  PROVED HERE: package valid's two rules, as package course calls them: what a Read sees, and whether one that asks to commit is aborted. Old memory stays as it was.
  Conditions: the deal has begun; the lists are short.
  PROVED HERE: package course: how a deal begins, and whose Write a Read reads, by any rule that is handed in.
  Conditions: what the rules answer is a premise; the lists are short.
-/
import Derived.Test.YtccjognnehoodafDoorMgbi
namespace Go.Proofs.YtccjognnehoodafDoor
open Go.RowKit

/-- What a rule that tells whose Write is seen is asked. -/
def SeesC (N : Nat) (seesF : Crs → Int → Int → Int) : Prop := ∀ (w0 w : World) (R : Nat) (S F : Value) (q : Crs) (c : CLay) (t item : Int), CrsAt w0 w R S F q c → CrsOk 1000 q → 1 ≤ t → t ≤ 6 → (q.began t).isSome = true →
  Calls Tryd.prog N #[.pointer (some ⟨R, 0, none⟩), .int .i64 t, .int .i64 item] w fun e w' => e = .returned (.int .i64 (seesF q t item)) ∧ Below w.heap.size w w'
/-- What a rule that tells whether one is aborted is asked. -/
def FallC (N : Nat) (fallF : Crs → Int → Bool) : Prop := ∀ (w0 w : World) (R : Nat) (S F : Value) (q : Crs) (c : CLay) (t : Int), CrsAt w0 w R S F q c → CrsOk 1000 q → 1 ≤ t → t ≤ 6 → (q.began t).isSome = true →
  Calls Tryd.prog N #[.pointer (some ⟨R, 0, none⟩), .int .i64 t] w fun e w' => e = .returned (.bool (fallF q t)) ∧ Below w.heap.size w w'
/-- .. and of one that holds on to something that lay there before. -/
def FallK (K : World → Prop) (N : Nat) (B C : Array Value) (fallF : Crs → Int → Bool) : Prop := ∀ (w0 w : World) (R : Nat) (S F : Value) (q : Crs) (c : CLay) (t : Int), K w0 → CrsAt w0 w R S F q c → CrsOk 999 q → 1 ≤ t → t ≤ 6 → (q.began t).isSome = true →
  Calls Tryd.prog N (B ++ #[.pointer (some ⟨R, 0, none⟩), .int .i64 t] ++ C) w fun e w' => e = .returned (.bool (fallF q t)) ∧ Below w.heap.size w w'
theorem FallC.k {N : Nat} {fallF : Crs → Int → Bool} (h : FallC N fallF) : FallK (fun _ => True) N #[] #[] fallF := fun w0 w R S F q c t _ h1 h2 h3 h4 h5 => by
  rw [Array.append_empty, Array.empty_append]
  exact h w0 w R S F q c t h1 h2.more h3 h4 h5
theorem seesV_c : SeesC 16 seesV := by
  intro w0 w R S F q c t item h hq h1 h6 hb
  have HC := hid_q (last_crs h hq item)
  unfold seesV
  clear h hq h1 h6 hb
  go_enter Tryd.func16, Tryd.ntmps16
  go_wp2_with (go_at_call 34; refine HC.out.mono ?_; rintro e w1 ⟨rfl, hb1⟩)
  go_ret
  exact ⟨rfl, hb1⟩
/-- Did one write what this one read? -/
def staleB (q : Crs) (t o : Int) (x : Op3) : Bool := x.2.2 != t && inB (q.wrote o) x.2.1
set_option maxHeartbeats 4000000 in
set_option maxRecDepth 100000 in
theorem stale2_fn {w0 w : World} {R : Nat} {S F : Value} {q : Crs} {c : CLay} (h : CrsAt w0 w R S F q c) (hq : CrsOk 1000 q) (t o : Int) (x : Op3) (ho1 : 1 ≤ o) (ho6 : o ≤ 6) (P1 P2 P3 : Nat) (k1 : w.cell? ⟨P1, 0, none⟩ = some (.int .i64 t)) (k2 : w.cell? ⟨P2, 0, none⟩ = some (.pointer (some ⟨R, 0, none⟩))) (k3 : w.cell? ⟨P3, 0, none⟩ = some (.int .i64 o)) :
    Calls Tryd.prog 40 (#[seV x] ++ #[.pointer (some ⟨P1, 0, none⟩), .pointer (some ⟨P2, 0, none⟩), .pointer (some ⟨P3, 0, none⟩)]) w fun e w' => e = .returned (.bool (staleB q t o x)) ∧ Below w.heap.size w w' := by
  obtain ⟨a, i, f⟩ := x
  have HC : Hid (∀ W, Below w.heap.size w W → Calls Tryd.prog 41 #[.pointer (some ⟨R, 0, none⟩), .int .i64 o, .int .i64 i] W fun e w' => e = .returned (.bool (inB (q.wrote o) i)) ∧ w' = W) := fun W hW => wrote_crs (h.below hW) ho1 ho6 i (hq.lenW _)
  have l1 := World.block_lt_of_cell? w _ k1
  have l2 := World.block_lt_of_cell? w _ k2
  have l3 := World.block_lt_of_cell? w _ k3
  unfold seV staleB
  simp only at l1 l2 l3
  clear h hq
  cases hf : (f != t) with
  | false =>
    go_enter Tryd.func40, Tryd.ntmps40
    go_wp2_with fail
    go_ret
    exact ⟨rfl, (Below.refl _ w).alloc (Nat.le_refl _) _⟩
  | true =>
    go_enter Tryd.func40, Tryd.ntmps40
    go_wp2_with (go_at_call 41; refine (HC.out _ ((Below.refl _ w).alloc (Nat.le_refl _) _)).mono ?_; rintro e w1 ⟨rfl, hw1⟩; rw [hw1]; clear hw1)
    go_ret
    exact ⟨rfl, (Below.refl _ w).alloc (Nat.le_refl _) _⟩
theorem call_stale2 : ∀ (args : Array Value) (W : World), (callFunc 40 args).run Tryd.prog W = .ok (.enter 40 args) W := fun args W => by kernel_rfl
theorem call_stale1 : ∀ (args : Array Value) (W : World), (callFunc 38 args).run Tryd.prog W = .ok (.enter 38 args) W := fun args W => by kernel_rfl
set_option maxHeartbeats 4000000 in
set_option maxRecDepth 100000 in
theorem stale1_fn {w0 w : World} {R : Nat} {S F : Value} {q : Crs} {c : CLay} (h : CrsAt w0 w R S F q c) (hq : CrsOk 1000 q) (t o : Int) (ho1 : 1 ≤ o) (ho6 : o ≤ 6) (rd : List Op3) (v : Value) (hv : IsOps w v rd) (hrd : rd.length ≤ 1000) (P0 P1 P2 : Nat) (k0 : w.cell? ⟨P0, 0, none⟩ = some v) (k1 : w.cell? ⟨P1, 0, none⟩ = some (.int .i64 t)) (k2 : w.cell? ⟨P2, 0, none⟩ = some (.pointer (some ⟨R, 0, none⟩))) :
    Calls Tryd.prog 38 (#[.int .i64 o] ++ #[.pointer (some ⟨P0, 0, none⟩), .pointer (some ⟨P1, 0, none⟩), .pointer (some ⟨P2, 0, none⟩)]) w fun e w' => e = .returned (.bool (rd.any (staleB q t o))) ∧ Below w.heap.size w w' := by
  have l0 := World.block_lt_of_cell? w _ k0
  have l1 := World.block_lt_of_cell? w _ k1
  have l2 := World.block_lt_of_cell? w _ k2
  simp only at l0 l1 l2
  have HC : Hid (∀ W, Below w.heap.size w W → ∀ P3, W.cell? ⟨P3, 0, none⟩ = some (.int .i64 o) → Calls Tryd.prog 39 #[v, .func (.func 40) #[] #[.pointer (some ⟨P1, 0, none⟩), .pointer (some ⟨P2, 0, none⟩), .pointer (some ⟨P3, 0, none⟩)]] W fun r w' => r = .returned (.bool (rd.any (staleB q t o))) ∧ Below W.heap.size W w') := fun W hW P3 k3 => by
    refine contains_seen rd v _ _ _ W call_stale2 (hv.below hW (Nat.le_refl _)) (by omega) fun W2 hW2 e _ => ?_
    have hW3 : Below w.heap.size w W2 := hW.trans (hW2.mono hW.size)
    exact stale2_fn (h.below hW3) hq t o e ho1 ho6 P1 P2 P3 ((hW3.cell (p := ⟨P1, 0, none⟩) l1).trans k1) ((hW3.cell (p := ⟨P2, 0, none⟩) l2).trans k2) ((hW2.cell (p := ⟨P3, 0, none⟩) (World.block_lt_of_cell? W _ k3)).trans k3)
  obtain ⟨ad, b, off, cap, rfl, -⟩ := hv
  obtain ⟨n, hn⟩ : ∃ n, rd.length = n := ⟨_, rfl⟩
  rw [hn] at k0 HC
  clear h hq hrd hn
  go_enter Tryd.func38, Tryd.ntmps38
  go_wp2_with (go_at_call 39; refine (HC.out _ ((Below.refl _ w).alloc (Nat.le_refl _) _) w.heap.size (by simp)).mono ?_; rintro e w1 ⟨rfl, hb1⟩)
  go_ret
  exact ⟨rfl, ((Below.refl _ w).alloc (Nat.le_refl _) _).trans (hb1.mono (by simp))⟩
set_option maxHeartbeats 4000000 in
set_option maxRecDepth 100000 in
theorem fallV_c : FallC 17 fallV := by
  intro w0 w R S F q c t h hq h1 h6 hb
  obtain ⟨n, hn⟩ := Option.isSome_iff_exists.1 hb
  have e0 : fallV q t = (q.done.drop n).any fun o => (q.read t).any (staleB q t o) := by unfold fallV; rw [hn]; rfl
  rw [e0]
  have HR : Hid (∀ W, Below w.heap.size w W → Calls Tryd.prog 35 #[.pointer (some ⟨R, 0, none⟩), .int .i64 t] W fun e w' => ∃ v', e = .returned v' ∧ w'.ownsRow W.heap.size 63 3 v' (q.read t).length (flat (q.read t)) ∧ Below W.heap.size W w') := fun W hW => read_crs (h.below hW) h1 h6 (hq.lenR t)
  have HS : Hid (∀ W, Below w.heap.size w W → Calls Tryd.prog 37 #[.pointer (some ⟨R, 0, none⟩), .int .i64 t] W fun e w' => ∃ v', e = .returned v' ∧ IsInts w' v' (q.done.drop n) ∧ Below W.heap.size W w') := fun W hW => since_crs (h.below hW) h1 h6 hn (hq.cnt t n hn) hq.lenD
  have HC : Hid (∀ W, Below w.heap.size w W → ∀ u v P0 P1 P2, IsInts W u (q.done.drop n) → IsOps W v (q.read t) → W.cell? ⟨P0, 0, none⟩ = some v → W.cell? ⟨P1, 0, none⟩ = some (.int .i64 t) → W.cell? ⟨P2, 0, none⟩ = some (.pointer (some ⟨R, 0, none⟩)) → Calls Tryd.prog 36 #[u, .func (.func 38) #[] #[.pointer (some ⟨P0, 0, none⟩), .pointer (some ⟨P1, 0, none⟩), .pointer (some ⟨P2, 0, none⟩)]] W fun r w' => r = .returned (.bool ((q.done.drop n).any fun o => (q.read t).any (staleB q t o))) ∧ Below W.heap.size W w') := fun W hW u v P0 P1 P2 hu hv k0 k1 k2 => by
    refine contains_intC (q.done.drop n) u _ _ _ W call_stale1 hu (by have := hq.lenD; rw [List.length_drop]; omega) fun W2 hW2 e he => ?_
    have h6 := hq.six e (List.mem_of_mem_drop he)
    exact stale1_fn (h.below (hW.trans (hW2.mono hW.size))) hq t e h6.1 h6.2 (q.read t) v (hv.below hW2 (Nat.le_refl _)) (hq.lenR t) P0 P1 P2 ((hW2.cell (p := ⟨P0, 0, none⟩) (World.block_lt_of_cell? W _ k0)).trans k0) ((hW2.cell (p := ⟨P1, 0, none⟩) (World.block_lt_of_cell? W _ k1)).trans k1) ((hW2.cell (p := ⟨P2, 0, none⟩) (World.block_lt_of_cell? W _ k2)).trans k2)
  obtain ⟨N, hN⟩ : ∃ N, (q.read t).length = N := ⟨_, rfl⟩
  rw [hN] at HR
  have HN := hid_q hN
  clear h hq h1 h6 hb hn e0 hN
  go_enter Tryd.func17, Tryd.ntmps17
  obtain ⟨P, hP⟩ : ∃ P, w.heap.size = P := ⟨_, rfl⟩
  go_wp2_with fail
  obtain ⟨W, hW⟩ : ∃ W, W = (w.alloc (.cells #[.pointer (some ⟨R, 0, none⟩)] 67)).alloc (.cells #[.int .i64 t] 3) := ⟨_, rfl⟩
  rw [← hW]
  have hbW : Below w.heap.size w W := by rw [hW]; exact ((Below.refl _ w).alloc (Nat.le_refl _) _).alloc (by simp) _
  have k2 : W.cell? ⟨P, 0, none⟩ = some (.pointer (some ⟨R, 0, none⟩)) := by rw [hW, ← hP]; simp
  have k1 : W.cell? ⟨P + 1, 0, none⟩ = some (.int .i64 t) := by rw [hW, ← hP]; simp
  clear hW
  refine (HR.out W hbW).mono ?_
  rintro e w1 ⟨v1, rfl, ho1, hb1⟩
  obtain ⟨ad1, cp1, rfl, -⟩ := own_slice3 ho1
  have hops : IsOps w1 (.slice ad1 N cp1) (q.read t) := isOps_row ho1 HN.out
  have HB1 : Hid (Below w.heap.size w w1) := hbW.trans (hb1.mono hbW.size)
  have m2 := (hb1.cell (p := ⟨P, 0, none⟩) (World.block_lt_of_cell? W _ k2)).trans k2
  have m1 := (hb1.cell (p := ⟨P + 1, 0, none⟩) (World.block_lt_of_cell? W _ k1)).trans k1
  have HO := hid_q hops
  clear ho1 hb1 k1 k2 hbW hops
  have q2 := World.block_lt_of_cell? w1 _ m2
  have q1 := World.block_lt_of_cell? w1 _ m1
  simp only at q1 q2
  go_upto_region 2 with (fail)
  obtain ⟨W3, hW3⟩ : ∃ W, W = w1.alloc (.cells #[.slice ad1 N cp1] 24) := ⟨_, rfl⟩
  rw [← hW3]
  have hb3 : Below w1.heap.size w1 W3 := by rw [hW3]; exact (Below.refl _ w1).alloc (Nat.le_refl _) _
  have n0 : W3.cell? ⟨w1.heap.size, 0, none⟩ = some (.slice ad1 N cp1) := by rw [hW3]; simp
  have n2 := (hb3.cell (p := ⟨P, 0, none⟩) q2).trans m2
  have n1 := (hb3.cell (p := ⟨P + 1, 0, none⟩) q1).trans m1
  have HB3 : Hid (Below w.heap.size w W3) := HB1.out.trans (hb3.mono HB1.out.size)
  have HO3 := hid_q (HO.out.below hb3 (Nat.le_refl _))
  clear hW3 hb3 m1 m2 q1 q2
  obtain ⟨P5, hP5⟩ : ∃ P, P = w1.heap.size := ⟨_, rfl⟩
  rw [← hP5] at n0 ⊢
  clear hP5 hP
  go_wp2_with fail
  refine (HS.out W3 HB3.out).mono ?_
  rintro e w4 ⟨v4, rfl, hi4, hb4⟩
  have r0 := (hb4.cell (p := ⟨P5, 0, none⟩) (World.block_lt_of_cell? W3 _ n0)).trans n0
  have r2 := (hb4.cell (p := ⟨P, 0, none⟩) (World.block_lt_of_cell? W3 _ n2)).trans n2
  have r1 := (hb4.cell (p := ⟨P + 1, 0, none⟩) (World.block_lt_of_cell? W3 _ n1)).trans n1
  have HB4 : Hid (Below w.heap.size w w4) := HB3.out.trans (hb4.mono HB3.out.size)
  have HCC := hid_q (HC.out w4 HB4.out v4 (.slice ad1 N cp1) P5 (P + 1) P hi4 (HO3.out.below hb4 (Nat.le_refl _)) r0 r1 r2)
  clear hi4 hb4
  go_wp2_with fail
  refine HCC.out.mono ?_
  rintro e w5 ⟨rfl, hb5⟩
  go_wp2_with fail
  go_ret
  exact ⟨rfl, HB4.out.trans (hb5.mono HB4.out.size)⟩
end Go.Proofs.YtccjognnehoodafDoor

namespace Go.Proofs.YtccjognnehoodafDoor
open Go.RowKit

abbrev RuleFn (N : Nat) : Prop := ∀ (args : Array Value) (W : World), (callFunc N args).run Tryd.prog W = .ok (.enter N args) W
theorem begM_set (b : Int → Option Nat) (t : Int) (n : Nat) : begM (setF b t (some n)) = setF (begM b) t (some (.int .i64 (n : Int))) := by
  funext u
  unfold begM
  by_cases e : u = t
  · subst e; rw [setF_same, setF_same]; rfl
  · rw [setF_other _ _ e, setF_other _ _ e]
theorem begM_some (b : Int → Option Nat) (t : Int) : (begM b t).isSome = (b t).isSome := by unfold begM; cases b t <;> rfl
set_option maxHeartbeats 8000000 in
set_option maxRecDepth 100000 in
theorem begin_crs {w0 w : World} {R : Nat} {S F : Value} {q : Crs} {c : CLay} (h : CrsAt w0 w R S F q c) {t : Int} (h1 : 1 ≤ t) (h6 : t ≤ 6) :
    Calls Tryd.prog 61 #[.pointer (some ⟨R, 0, none⟩), .int .i64 t] w fun e w' => e = .returned (.tuple #[]) ∧ CrsAt w0 w' R S F (begQ q t) c ∧ Turns (fun k => k = c.B) w w' := by
  have c3 := h.c3
  have c2 := h.c2
  obtain ⟨m, hm⟩ := h.beg
  have hwf := wf_deal h1 h6
  have HM := hid_q hm
  have HL := hid_q h
  cases hb : (q.began t).isSome with
  | true =>
    have HQ : Hid (begQ q t = q) := by show begQ q t = q; unfold begQ; rw [if_pos hb]
    have HB : Hid ((begM q.began t).isSome = true) := by show (begM q.began t).isSome = true; rw [begM_some]; exact hb
    obtain ⟨u, hu⟩ : ∃ u : Nat, (begM q.began t).getD (.int .i64 0) = .int .i64 (u : Int) := by
      obtain ⟨n, hn⟩ := Option.isSome_iff_exists.1 hb
      exact ⟨n, by unfold begM; rw [hn]; rfl⟩
    have HU := hid_q hu
    clear h hm h1 h6 hb hu c2
    go_enter Tryd.func61, Tryd.ntmps61
    go_wp2_with (at_lookup; refine wp_look _ rfl (.tmp 10) (.tmp 11) 78 true rfl 3 Tryd.underlying78 (.int .i64 0) (zero_intQ _) c.B m (begM q.began) rfl HM.out t rfl hwf (.int .i64 (u : Int)) true HU.out HB.out ?_)
    go_end0
    exact ⟨rfl, by rw [HQ.out]; exact HL.out, Turns.refl _ _⟩
  | false =>
    have HQ : Hid (begQ q t = { q with began := setF q.began t (some q.done.length) }) := by show begQ q t = _; unfold begQ; rw [if_neg (by rw [hb]; decide)]
    have HB : Hid ((begM q.began t).isSome = false) := by show (begM q.began t).isSome = false; rw [begM_some]; exact hb
    have HU : Hid ((begM q.began t).getD (.int .i64 0) = .int .i64 0) := by
      show _ = _
      have : q.began t = none := by simpa using hb
      unfold begM; rw [this]; rfl
    obtain ⟨ad, cap, e1, -⟩ := own_slice3 h.done
    rw [e1] at c2
    obtain ⟨N, hN⟩ : ∃ N, q.done.length = N := ⟨_, rfl⟩
    rw [hN] at c2 HQ
    obtain ⟨X, hup, hmX, htX⟩ := (MapIs.drew hm).store (v := .int .i64 (N : Int)) Tryd.underlying78 h1 h6
    have htX' : Turns (fun k => k = c.B) w X := ⟨htX.os, htX.tape, htX.output, htX.size, htX.block⟩
    have HX : Hid (CrsAt w0 X R S F (begQ q t) c ∧ Turns (fun k => k = c.B) w X) := by
      refine ⟨?_, htX'⟩
      rw [HQ.out]
      rw [← begM_set] at hmX
      exact h.setBeg hmX htX'
    have x2 : X.cell? ⟨R, 2, none⟩ = some (.slice ad N cap) := (HX.out.2.cell (p := ⟨R, 2, none⟩) h.lt (fun e => h.apart 0 2 R (by omega) (by omega) (by decide) rfl e)).trans c2
    have x3 : X.cell? ⟨R, 3, none⟩ = some (.map (some c.B)) := (HX.out.2.cell (p := ⟨R, 3, none⟩) h.lt (fun e => h.apart 0 2 R (by omega) (by omega) (by decide) rfl e)).trans c3
    clear h hm h1 h6 hb e1 hN hmX htX htX'
    go_enter Tryd.func61, Tryd.ntmps61
    go_wp2_with (at_lookup; refine wp_look _ rfl (.tmp 10) (.tmp 11) 78 true rfl 3 Tryd.underlying78 (.int .i64 0) (zero_intQ _) c.B m (begM q.began) rfl HM.out t rfl hwf (.int .i64 0) false HU.out HB.out ?_)
    go_region_held3 (fun w' => w'.cell? ⟨R, 2, none⟩ = some (.slice ad N cap) ∧ w'.cell? ⟨R, 3, none⟩ = some (.map (some c.B))) (first | exact ⟨c2, c3⟩ | exact ⟨x2, x3⟩) (fail)
    all_goals
      go_wp2_with fail
      go_end0
      exact ⟨rfl, HX.out⟩
/-- An op in a box beside the run. -/
structure CrsBox (w : World) (P : Nat) (t a i : Int) : Prop where
  p0 : w.cell? ⟨P, 0, none⟩ = some (.int .i64 t)
  p1 : w.cell? ⟨P, 1, none⟩ = some (.int .i64 a)
  p2 : w.cell? ⟨P, 2, none⟩ = some (.int .i64 i)
theorem CrsBox.lt {w : World} {P : Nat} {t a i : Int} (h : CrsBox w P t a i) : P < w.heap.size := World.block_lt_of_cell? w _ h.p0
theorem CrsBox.turn {G : Nat → Prop} {w w1 : World} {P : Nat} {t a i : Int} (h : CrsBox w P t a i) (ht : Turns G w w1) (hP : ¬ G P) : CrsBox w1 P t a i :=
  ⟨(ht.cell (p := ⟨P, 0, none⟩) h.lt hP).trans h.p0, (ht.cell (p := ⟨P, 1, none⟩) h.lt hP).trans h.p1, (ht.cell (p := ⟨P, 2, none⟩) h.lt hP).trans h.p2⟩
theorem CrsBox.below {w w1 : World} {P : Nat} {t a i : Int} (h : CrsBox w P t a i) (hb : Below w.heap.size w w1) : CrsBox w1 P t a i := h.turn (Turns.of_below (F := fun _ => False) hb) fun hf => hf
theorem crsBox_new (w : World) (t a i : Int) (T : TypeId) : CrsBox (w.alloc (.cells #[.int .i64 t, .int .i64 a, .int .i64 i] T)) w.heap.size t a i := ⟨by simp, by simp, by simp⟩
set_option maxHeartbeats 8000000 in
set_option maxRecDepth 100000 in
theorem source_crs {NS : Nat} {seesF : Crs → Int → Int → Int} (hcall : RuleFn NS) (hS : SeesC NS seesF) {w0 w : World} {R : Nat} {F : Value} {q : Crs} {c : CLay} (h : CrsAt w0 w R (.func (.func NS) #[] #[]) F q c) (hq : CrsOk 1000 q) {t : Int} (a i : Int) (h1 : 1 ≤ t) (h6 : t ≤ 6) (hb : (q.began t).isSome = true) :
    Calls Tryd.prog 62 #[.pointer (some ⟨R, 0, none⟩), .agg #[.int .i64 t, .int .i64 a, .int .i64 i]] w fun e w' => e = .returned (.int .i64 (srcQ seesF q t i)) ∧ Below w.heap.size w w' := by
  have HL := hid_q h
  have HQ := hid_q hq
  have HS : Hid (∀ W, Below w.heap.size w W → Calls Tryd.prog NS #[.pointer (some ⟨R, 0, none⟩), .int .i64 t, .int .i64 i] W fun e w' => e = .returned (.int .i64 (seesF q t i)) ∧ Below W.heap.size W w') := fun W hW => hS w0 W R _ F q c t i (h.below hW) hq h1 h6 hb
  have HW : Hid (∀ W, Below w.heap.size w W → Calls Tryd.prog 41 #[.pointer (some ⟨R, 0, none⟩), .int .i64 t, .int .i64 i] W fun e w' => e = .returned (.bool (inB (q.wrote t) i)) ∧ w' = W) := fun W hW => wrote_crs (h.below hW) h1 h6 i (hq.lenW t)
  have HK : Hid (∀ W, Below w.heap.size w W → W.cell? ⟨R, 0, none⟩ = some (.func (.func NS) #[] #[])) := fun W hW => (h.below hW).c0
  obtain ⟨r, hr⟩ : ∃ r, srcQ seesF q t i = r := ⟨_, rfl⟩
  rw [hr]
  have HR := hid_q hr
  clear h hq hS hb h1 h6 hr
  go_enter Tryd.func62, Tryd.ntmps62
  go_upto_region 1 with (fail)
  obtain ⟨W, hW⟩ : ∃ W, W = w.alloc (.cells #[.int .i64 t, .int .i64 a, .int .i64 i] 59) := ⟨_, rfl⟩
  rw [← hW]
  have hbx : CrsBox W w.heap.size t a i := by rw [hW]; exact crsBox_new _ _ _ _ _
  have HB : Hid (Below w.heap.size w W) := by show Below _ _ _; rw [hW]; exact (Below.refl _ w).alloc (Nat.le_refl _) _
  obtain ⟨P, hP⟩ : ∃ P, P = w.heap.size := ⟨_, rfl⟩
  rw [← hP] at hbx ⊢
  obtain ⟨p0, p1, p2⟩ := hbx
  have hPW := World.block_lt_of_cell? W _ p0
  simp only at hPW
  have k0 := HK.out W HB.out
  have HWW := hid_q (HW.out W HB.out)
  have hRW := World.block_lt_of_cell? W _ k0
  simp only at hRW
  clear hW hP
  cases hin : inB (q.wrote t) i with
  | true =>
    have HIN := hid_q hin
    rw [hin] at HWW
    clear hin
    go_wp2_with fail
    refine HWW.out.mono ?_
    rintro e w1 ⟨rfl, hw1⟩
    rw [hw1]
    clear hw1
    go_wp2_with fail
    go_ret
    exact ⟨by rw [← HR.out, srcQ, if_pos HIN.out]; rfl, HB.out⟩
  | false =>
    have HIN := hid_q hin
    rw [hin] at HWW
    clear hin
    obtain ⟨B, hA1, hA2⟩ : ∃ B, B ≤ W.heap.size ∧ W.heap.size ≤ B := ⟨_, Nat.le_refl _, Nat.le_refl _⟩
    have hne : Nonempty (Later B W) := ⟨⟨W, Below.refl _ _⟩⟩
    have g0 : ∀ y : Later B W, y.W.cell? ⟨P, 0, none⟩ = some (.int .i64 t) := fun y => (y.h.cell (p := ⟨P, 0, none⟩) (by show P < B; omega)).trans p0
    have g2 : ∀ y : Later B W, y.W.cell? ⟨P, 2, none⟩ = some (.int .i64 i) := fun y => (y.h.cell (p := ⟨P, 2, none⟩) (by show P < B; omega)).trans p2
    have gR : ∀ y : Later B W, y.W.cell? ⟨R, 0, none⟩ = some (.func (.func NS) #[] #[]) := fun y => (y.h.cell (p := ⟨R, 0, none⟩) (by show R < B; omega)).trans k0
    have HCQ : Hid (∀ y : Later B W, Calls Tryd.prog NS #[.pointer (some ⟨R, 0, none⟩), .int .i64 t, .int .i64 i] y.W fun e w' => e = .returned (.int .i64 (seesF q t i)) ∧ ∃ z : Later B W, w' = z.W) := fun y => Later.at y hA1 (HS.out y.W (HB.out.trans (y.h.mono (by have := HB.out.size; omega))))
    go_wp2_with fail
    refine HWW.out.mono ?_
    rintro e w1 ⟨rfl, hw1⟩
    rw [hw1]
    clear hw1 p0 p1 p2 k0
    go_wp2_with fail
    refine region_later B (by kernel_rfl) (by kernel_rfl) ?_
    repeat (first | go_big_quiet_skip | (go_big_quiet_want; go_big_quiet_op; first | go_big_quiet_on | (refine ⟨_, fun y => HCQ.out y, ?_⟩; go_big_quiet_on)))
    refine wpQuiet_nil ?_
    intro V hV
    obtain ⟨y, rfl⟩ := hV
    have HBY : Hid (Below w.heap.size w y.W) := HB.out.trans (y.h.mono (by have := HB.out.size; omega))
    go_wp2_with fail
    go_ret
    exact ⟨by rw [← HR.out, srcQ, if_neg (by rw [HIN.out]; decide)]; rfl, HBY.out⟩
end Go.Proofs.YtccjognnehoodafDoor
