/-
  PROVED HERE: package snap's two rules, as package course calls them: what a Read sees, and whether one that asks to commit is aborted; its Run keeps what it is asked (RunsC). Old memory stays as it was.
  Conditions: none for Run; for the rules: the deal has begun, the lists are short.
-/
import Derived.Test.YtccjognnehoodagCrsRun
import Derived.Test.YtccjognnehoodagCrsSnapP
import Derived.Laws.EntriesVeiled
namespace Go.Proofs.Ytccjognnehoodag
open Go.RowKit

theorem seesS_c : SeesC 36 seesS := by
  intro w0 w R S F q c t item h hq h1 h6 hb
  obtain ⟨n, hn⟩ := Option.isSome_iff_exists.1 hb
  have HC := hid_q (lastBefore_crs h hq h1 h6 hn item)
  have e0 : seesS q t item = lastQ q.wrote (q.done.take n) item := by unfold seesS; rw [hn]; rfl
  rw [e0]
  clear h hq h1 h6 hb hn e0
  go_enter Try.func36, Try.ntmps36
  go_wp2_with (go_at_call 63; refine HC.out.mono ?_; rintro e w1 ⟨rfl, hb1⟩)
  go_ret
  exact ⟨rfl, hb1⟩
set_option maxHeartbeats 4000000 in
theorem over2_fn {w0 w : World} {R : Nat} {S F : Value} {q : Crs} {c : CLay} (h : CrsAt w0 w R S F q c) (hq : CrsOk 1000 q) (o i : Int) (ho1 : 1 ≤ o) (ho6 : o ≤ 6) (P1 P2 : Nat) (k1 : w.cell? ⟨P1, 0, none⟩ = some (.pointer (some ⟨R, 0, none⟩))) (k2 : w.cell? ⟨P2, 0, none⟩ = some (.int .i64 o)) :
    Calls Try.prog 66 (#[.int .i64 i] ++ #[.pointer (some ⟨P1, 0, none⟩), .pointer (some ⟨P2, 0, none⟩)]) w fun e w' => e = .returned (.bool (inB (q.wrote o) i)) ∧ Below w.heap.size w w' := by
  have HC := hid_q (wrote_crs h ho1 ho6 i (hq.lenW _))
  clear h hq
  go_enter Try.func66, Try.ntmps66
  go_wp2_with (go_at_call 51; refine HC.out.mono ?_; rintro e w1 ⟨rfl, hw1⟩; rw [hw1]; clear hw1)
  go_ret
  exact ⟨rfl, Below.refl _ w⟩
theorem call_over2 : RuleFn 66 := fun args W => by kernel_rfl
theorem call_over1 : RuleFn 65 := fun args W => by kernel_rfl
set_option maxHeartbeats 4000000 in
set_option maxRecDepth 100000 in
theorem over1_fn {w0 w : World} {R : Nat} {S F : Value} {q : Crs} {c : CLay} (h : CrsAt w0 w R S F q c) (hq : CrsOk 1000 q) (o : Int) (ho1 : 1 ≤ o) (ho6 : o ≤ 6) (wr : List Int) (v : Value) (hv : IsInts w v wr) (hwr : wr.length ≤ 1000) (P0 P1 : Nat) (k0 : w.cell? ⟨P0, 0, none⟩ = some v) (k1 : w.cell? ⟨P1, 0, none⟩ = some (.pointer (some ⟨R, 0, none⟩))) :
    Calls Try.prog 65 (#[.int .i64 o] ++ #[.pointer (some ⟨P0, 0, none⟩), .pointer (some ⟨P1, 0, none⟩)]) w fun e w' => e = .returned (.bool (wr.any fun i => inB (q.wrote o) i)) ∧ Below w.heap.size w w' := by
  have l0 := World.block_lt_of_cell? w _ k0
  have l1 := World.block_lt_of_cell? w _ k1
  simp only at l0 l1
  have HC : Hid (∀ W, Below w.heap.size w W → ∀ P3, W.cell? ⟨P3, 0, none⟩ = some (.int .i64 o) → Calls Try.prog 46 #[v, .func (.func 66) #[] #[.pointer (some ⟨P1, 0, none⟩), .pointer (some ⟨P3, 0, none⟩)]] W fun r w' => r = .returned (.bool (wr.any fun i => inB (q.wrote o) i)) ∧ Below W.heap.size W w') := fun W hW P3 k3 => by
    refine contains_intC wr v _ _ _ W call_over2 (hv.below hW (Nat.le_refl _)) (by omega) fun W2 hW2 e _ => ?_
    have hW3 : Below w.heap.size w W2 := hW.trans (hW2.mono hW.size)
    exact over2_fn (h.below hW3) hq o e ho1 ho6 P1 P3 ((hW3.cell (p := ⟨P1, 0, none⟩) l1).trans k1) ((hW2.cell (p := ⟨P3, 0, none⟩) (World.block_lt_of_cell? W _ k3)).trans k3)
  obtain ⟨ad, b, off, cap, rfl, -⟩ := hv
  obtain ⟨n, hn⟩ : ∃ n, wr.length = n := ⟨_, rfl⟩
  rw [hn] at k0 HC
  clear h hq hwr hn
  go_enter Try.func65, Try.ntmps65
  go_wp2_with (go_at_call 46; refine (HC.out _ ((Below.refl _ w).alloc (Nat.le_refl _) _) w.heap.size (by simp)).mono ?_; rintro e w1 ⟨rfl, hb1⟩)
  go_ret
  exact ⟨rfl, ((Below.refl _ w).alloc (Nat.le_refl _) _).trans (hb1.mono (by simp))⟩
set_option maxHeartbeats 4000000 in
set_option maxRecDepth 100000 in
theorem fallS_c : FallC 37 fallS := by
  intro w0 w R S F q c t h hq h1 h6 hb
  obtain ⟨n, hn⟩ := Option.isSome_iff_exists.1 hb
  have e0 : fallS q t = (q.done.drop n).any fun o => (q.wrote t).any fun i => inB (q.wrote o) i := by unfold fallS; rw [hn]; rfl
  rw [e0]
  have HR : Hid (∀ W, Below w.heap.size w W → Calls Try.prog 64 #[.pointer (some ⟨R, 0, none⟩), .int .i64 t] W fun e w' => ∃ v', e = .returned v' ∧ w'.ownsRow W.heap.size 3 1 v' (q.wrote t).length ((q.wrote t).map (Value.int .i64)) ∧ Below W.heap.size W w') := fun W hW => written_crs (h.below hW) h1 h6 (hq.lenW t)
  have HS : Hid (∀ W, Below w.heap.size w W → Calls Try.prog 47 #[.pointer (some ⟨R, 0, none⟩), .int .i64 t] W fun e w' => ∃ v', e = .returned v' ∧ IsInts w' v' (q.done.drop n) ∧ Below W.heap.size W w') := fun W hW => since_crs (h.below hW) h1 h6 hn (hq.cnt t n hn) hq.lenD
  have HC : Hid (∀ W, Below w.heap.size w W → ∀ u v P0 P1, IsInts W u (q.done.drop n) → IsInts W v (q.wrote t) → W.cell? ⟨P0, 0, none⟩ = some v → W.cell? ⟨P1, 0, none⟩ = some (.pointer (some ⟨R, 0, none⟩)) → Calls Try.prog 46 #[u, .func (.func 65) #[] #[.pointer (some ⟨P0, 0, none⟩), .pointer (some ⟨P1, 0, none⟩)]] W fun r w' => r = .returned (.bool ((q.done.drop n).any fun o => (q.wrote t).any fun i => inB (q.wrote o) i)) ∧ Below W.heap.size W w') := fun W hW u v P0 P1 hu hv k0 k1 => by
    refine contains_intC (q.done.drop n) u _ _ _ W call_over1 hu (by have := hq.lenD; rw [List.length_drop]; omega) fun W2 hW2 e he => ?_
    have h6 := hq.six e (List.mem_of_mem_drop he)
    exact over1_fn (h.below (hW.trans (hW2.mono hW.size))) hq e h6.1 h6.2 (q.wrote t) v (hv.below hW2 (Nat.le_refl _)) (hq.lenW t) P0 P1 ((hW2.cell (p := ⟨P0, 0, none⟩) (World.block_lt_of_cell? W _ k0)).trans k0) ((hW2.cell (p := ⟨P1, 0, none⟩) (World.block_lt_of_cell? W _ k1)).trans k1)
  obtain ⟨N, hN⟩ : ∃ N, (q.wrote t).length = N := ⟨_, rfl⟩
  rw [hN] at HR
  have HN := hid_q hN
  clear h hq h1 h6 hb hn e0 hN
  go_enter Try.func37, Try.ntmps37
  obtain ⟨P, hP⟩ : ∃ P, w.heap.size = P := ⟨_, rfl⟩
  go_wp2_with fail
  obtain ⟨W, hW⟩ : ∃ W, W = w.alloc (.cells #[.pointer (some ⟨R, 0, none⟩)] 62) := ⟨_, rfl⟩
  rw [← hW]
  have hbW : Below w.heap.size w W := by rw [hW]; exact (Below.refl _ w).alloc (Nat.le_refl _) _
  have k2 : W.cell? ⟨P, 0, none⟩ = some (.pointer (some ⟨R, 0, none⟩)) := by rw [hW, ← hP]; simp
  clear hW
  refine (HR.out W hbW).mono ?_
  rintro e w1 ⟨v1, rfl, ho1, hb1⟩
  obtain ⟨ad1, cp1, rfl, -⟩ := own_slice3 ho1
  have HB1 : Hid (Below w.heap.size w w1) := hbW.trans (hb1.mono hbW.size)
  have m2 := (hb1.cell (p := ⟨P, 0, none⟩) (World.block_lt_of_cell? W _ k2)).trans k2
  have HO := hid_q (isInts_own ho1 HN.out)
  clear ho1 hb1 k2 hbW
  have q2 := World.block_lt_of_cell? w1 _ m2
  simp only at q2
  go_upto_region 2 with (fail)
  obtain ⟨W3, hW3⟩ : ∃ W, W = w1.alloc (.cells #[.slice ad1 N cp1] 25) := ⟨_, rfl⟩
  rw [← hW3]
  have hb3 : Below w1.heap.size w1 W3 := by rw [hW3]; exact (Below.refl _ w1).alloc (Nat.le_refl _) _
  have n0 : W3.cell? ⟨w1.heap.size, 0, none⟩ = some (.slice ad1 N cp1) := by rw [hW3]; simp
  have n2 := (hb3.cell (p := ⟨P, 0, none⟩) q2).trans m2
  have HB3 : Hid (Below w.heap.size w W3) := HB1.out.trans (hb3.mono HB1.out.size)
  have HO3 := hid_q (HO.out.below hb3 (Nat.le_refl _))
  clear hW3 hb3 m2 q2
  obtain ⟨P5, hP5⟩ : ∃ P, P = w1.heap.size := ⟨_, rfl⟩
  rw [← hP5] at n0 ⊢
  clear hP5 hP
  go_wp2_with fail
  refine (HS.out W3 HB3.out).mono ?_
  rintro e w4 ⟨v4, rfl, hi4, hb4⟩
  have r0 := (hb4.cell (p := ⟨P5, 0, none⟩) (World.block_lt_of_cell? W3 _ n0)).trans n0
  have r2 := (hb4.cell (p := ⟨P, 0, none⟩) (World.block_lt_of_cell? W3 _ n2)).trans n2
  have HB4 : Hid (Below w.heap.size w w4) := HB3.out.trans (hb4.mono HB3.out.size)
  have HCC := hid_q (HC.out w4 HB4.out v4 (.slice ad1 N cp1) P5 P hi4 (HO3.out.below hb4 (Nat.le_refl _)) r0 r2)
  clear hi4 hb4
  go_wp2_with fail
  refine HCC.out.mono ?_
  rintro e w5 ⟨rfl, hb5⟩
  go_wp2_with fail
  go_ret
  exact ⟨rfl, HB4.out.trans (hb5.mono HB4.out.size)⟩
theorem call_asItWas : RuleFn 36 := fun _ _ => by kernel_rfl
theorem call_over : RuleFn 37 := fun _ _ => by kernel_rfl
theorem rules_infoQ : (Try.prog.info? 56).map (fun i => i.size) = some 2 := by kernel_rfl
set_option maxHeartbeats 2000000 in
theorem rules_fn (w : World) : Calls Try.prog 22 #[] w fun e w' => e = .returned (.agg #[.func (.func 36) #[] #[], .func (.func 37) #[] #[]]) ∧ Below w.heap.size w w' := by
  go_enter Try.func22, Try.ntmps22
  go_wp2_with fail
  exact bodyPost_ret (v := .agg #[.func (.func 36) #[] #[], .func (.func 37) #[] #[]]) (results_cell_row Try.results22 _ _ w.heap.size 56 #[.func (.func 36) #[] #[], .func (.func 37) #[] #[]] (0, 0) _ rfl (World.alloc_heap_new w _) Try.underlying56 rfl rules_infoQ) rfl ⟨rfl, (Below.refl _ w).alloc (Nat.le_refl _) _⟩
theorem outS (l : List Op3) : outU 2 okS false l = ((if (chk l).2 = 0 then (runQ seesS fallS l l.length).done else [], if (chk l).2 = 0 then (runQ seesS fallS l l.length).done.flatMap (runQ seesS fallS l l.length).read else [], if (chk l).2 = 0 then lastsQ (runQ seesS fallS l l.length) 6 else []), (chk l).2) := by
  by_cases hc : (chk l).2 = 0
  · rw [if_pos hc, if_pos hc, if_pos hc, crs_out rulesS hc, hc]; rfl
  · rw [if_neg hc, if_neg hc, if_neg hc, outU_bad hc]
set_option maxHeartbeats 8000000 in
set_option maxRecDepth 100000 in
theorem snapC : RunsC 7 2 okS false := by
  intro l v w hI
  rw [outS]
  have HRC : Hid (∀ W, Below w.heap.size w W → _) := fun W hW => run_crs call_asItWas call_over seesS_c fallS_c.k l v W (fun _ _ => trivial) (hI.below hW (Nat.le_refl _))
  obtain ⟨A, hA⟩ : ∃ A, (if (chk l).2 = 0 then (runQ seesS fallS l l.length).done else []) = A := ⟨_, rfl⟩
  obtain ⟨B, hB⟩ : ∃ B, (if (chk l).2 = 0 then (runQ seesS fallS l l.length).done.flatMap (runQ seesS fallS l l.length).read else []) = B := ⟨_, rfl⟩
  obtain ⟨C, hC⟩ : ∃ C, (if (chk l).2 = 0 then lastsQ (runQ seesS fallS l l.length) 6 else []) = C := ⟨_, rfl⟩
  obtain ⟨er, her⟩ : ∃ e, errV (chk l).2 = e := ⟨_, rfl⟩
  have HER : Hid (er = .nilIface ∨ ∃ n, er = .iface 104 (.int .i64 n)) := by
    show _ ∨ _
    rw [← her]
    unfold errV
    split
    · exact .inl rfl
    · exact .inr ⟨_, rfl⟩
  rw [hA, hB, hC, her] at HRC
  simp only
  rw [hA, hB, hC, her]
  obtain ⟨ad, b, off, cap, rfl, -⟩ := hI
  obtain ⟨W0, hW0⟩ : ∃ W, W = w.alloc (.cells #[.slice none 0 0, .slice none 0 0, .slice none 0 0] 28) := ⟨_, rfl⟩
  have hb0 : Below w.heap.size w W0 := by rw [hW0]; exact (Below.refl _ w).alloc (Nat.le_refl _) _
  have HB0 := hid_q hb0
  have kz : W0.heap[w.heap.size]? = some (.cells #[.slice none 0 0, .slice none 0 0, .slice none 0 0] 28 (0, 0)) := by rw [hW0]; exact World.alloc_heap_new w _
  have HKZ := hid_q kz
  have hsz : W0.heap.size = w.heap.size + 1 := by rw [hW0]; simp
  have HSZ := hid_q hsz
  have HRL := hid_q (rules_fn W0)
  clear hA hB hC her hb0 kz hsz
  go_enter Try.func7, Try.ntmps7
  go_upto_region 1 with (fail)
  rw [← hW0]
  obtain ⟨Z, hZ⟩ : ∃ Z, Z = w.heap.size := ⟨_, rfl⟩
  rw [← hZ] at HKZ ⊢
  have HZZ : Hid (Z < W0.heap.size ∧ w.heap.size ≤ Z) := by have := HSZ.out; exact ⟨by omega, by omega⟩
  clear hW0 hZ
  go_wp2_with fail
  refine HRL.out.mono ?_
  rintro e w2 ⟨rfl, hb2⟩
  have HB2 := hid_q hb2
  have HCK := hid_q (HRC.out w2 (HB0.out.trans (hb2.mono HB0.out.size)))
  clear hb2
  go_wp2_with fail
  refine HCK.out.mono ?_
  rintro e w5 ⟨a1, a2, a3, rfl, hi1, hi2, hi3, hr, hb6⟩
  have hb5 : Below W0.heap.size W0 w5 := HB2.out.trans (hb6.mono HB2.out.size)
  have hz5 := (hb5.block Z HZZ.out.1).trans HKZ.out
  have HF5 := hid_q (fin5 hz5 HZZ.out.2 (HB0.out.trans (hb5.mono HB0.out.size)) (u1 := a1) (u2 := a2) (u3 := a3) hi1 hi2 hi3)
  have HRR := hid_q hr
  have z0 : w5.cell? ⟨Z, 0, none⟩ = some (.slice none 0 0) := by rw [cell_of_row w5 Z _ _ _ _ hz5]; rfl
  have z1 : w5.cell? ⟨Z, 1, none⟩ = some (.slice none 0 0) := by rw [cell_of_row w5 Z _ _ _ _ hz5]; rfl
  have z2 : w5.cell? ⟨Z, 2, none⟩ = some (.slice none 0 0) := by rw [cell_of_row w5 Z _ _ _ _ hz5]; rfl
  have y0 : w5.frozen? ⟨Z, 0, none⟩ = false := by simp [World.frozen?, hz5]
  have y1 : w5.frozen? ⟨Z, 1, none⟩ = false := by simp [World.frozen?, hz5]
  have y2 : w5.frozen? ⟨Z, 2, none⟩ = false := by simp [World.frozen?, hz5]
  obtain ⟨d1, n1, p1, x1⟩ : ∃ d n p, a1 = .slice d n p := by obtain ⟨a, _, _, c, h, _⟩ := hi1; exact ⟨a, _, c, h⟩
  obtain ⟨d2, n2, p2, x2⟩ : ∃ d n p, a2 = .slice d n p := by obtain ⟨a, _, _, c, h, _⟩ := hi2; exact ⟨a, _, c, h⟩
  obtain ⟨d3, n3, p3, x3⟩ : ∃ d n p, a3 = .slice d n p := by obtain ⟨a, _, _, c, h, _⟩ := hi3; exact ⟨a, _, c, h⟩
  subst x1 x2 x3
  clear hi1 hi2 hi3 hr hb5 hb6 hz5
  rcases HER.out with rfl | ⟨ne, rfl⟩
  · go_wp2_with fail
    exact bodyPost_ret (v := .tuple #[.agg #[.slice d1 n1 p1, .slice d2 n2 p2, .slice d3 n3 p3], .nilIface]) (results_twoQ Try.results7 _ _ Z 28 #[.slice d1 n1 p1, .slice d2 n2 p2, .slice d3 n3 p3] (0, 0) _ .nilIface rfl rfl HF5.out.1 Try.underlying28 rfl outcome_infoQ) rfl ⟨_, _, _, rfl, HF5.out.2.1, HF5.out.2.2.1, HF5.out.2.2.2.1, HRR.out, HF5.out.2.2.2.2⟩
  · go_wp2_with fail
    exact bodyPost_ret (v := .tuple #[.agg #[.slice d1 n1 p1, .slice d2 n2 p2, .slice d3 n3 p3], .iface 104 (.int .i64 ne)]) (results_twoQ Try.results7 _ _ Z 28 #[.slice d1 n1 p1, .slice d2 n2 p2, .slice d3 n3 p3] (0, 0) _ (.iface 104 (.int .i64 ne)) rfl rfl HF5.out.1 Try.underlying28 rfl outcome_infoQ) rfl ⟨_, _, _, rfl, HF5.out.2.1, HF5.out.2.2.1, HF5.out.2.2.2.1, HRR.out, HF5.out.2.2.2.2⟩
end Go.Proofs.Ytccjognnehoodag
