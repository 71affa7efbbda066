/-
  PROVED HERE: package course: Whole and Run, by any two rules, go over ops as chapters 11 to 14 have it for such rules; package valid keeps what it is asked (RunsC). Old memory stays as it was.
  Conditions: what the rules answer is a premise of the first.
-/
import Derived.Test.YtccjognnehoodagCrsOut
namespace Go.Proofs.Ytccjognnehoodag
open Go.RowKit

set_option maxHeartbeats 4000000 in
set_option maxRecDepth 100000 in
theorem newCourse_crs (S F : Value) (hS : ∃ N, S = .func (.func N) #[] #[]) (hF : ∃ N B C, F = .func (.func N) B C) (w0 w : World) (hb : Below w0.heap.size w0 w) :
    Calls Try.prog 53 #[.agg #[S, F]] w fun e w' => ∃ R, e = .returned (.pointer (some ⟨R, 0, none⟩)) ∧ ∃ c, CrsAt w0 w' R S F crs0 c := by
  obtain ⟨N1, rfl⟩ := hS
  obtain ⟨N2, B2, C2, rfl⟩ := hF
  have hmm := @run_makeMap Try.prog
  have HM := hid_q (crs_made w0 (w.alloc (.cells #[.func (.func N1) #[] #[], .func (.func N2) B2 C2] 56)) (hb.alloc hb.size _) (.func (.func N1) #[] #[]) (.func (.func N2) B2 C2))
  simp only [World.size_alloc] at HM
  clear hb
  go_enter Try.func53, Try.ntmps53
  go_wp2_with fail
  go_ret
  exact ⟨_, rfl, _, HM.out⟩
theorem isOps_nilQ (w : World) : IsOps w (.slice none 0 0) [] := ⟨none, 0, 0, 0, rfl, fun h => absurd h (by simp), fun _ => ⟨rfl, rfl⟩, .inr rfl, fun i hi => by simp at hi⟩
theorem results_twoQ {P : Program} {fn : Func} {p q : Tmp} {ty : TypeId} (h : fn.results = #[.cell p ty, .tmp q]) (tmps : Array Value) (w : World) (g : Nat) (t : TypeId) (cs : Array Value) (fr : Nat × Nat) (d : TypeDesc) (v : Value)
    (hp : tmps.getD p undef = .pointer (some ⟨g, 0, none⟩)) (hq : tmps.getD q undef = v) (hg : w.heap[g]? = some (.cells cs t fr))
    (hu : P.underlying ty = some d) (hd : (match d with | .struct _ | .array _ _ => true | _ => false) = true) (hi : (P.info? ty).map (·.size) = some cs.size) :
    (results fn tmps).run P w = .ok (.tuple #[.agg cs, v]) w := by
  have hp' : tmps[p]?.getD undef = .pointer (some ⟨g, 0, none⟩) := by simpa using hp
  have hq' : tmps[q]?.getD undef = v := by simpa using hq
  simp [results, h, hp', hq', asAddr, run_loadVar_row w g t ty cs fr d hg hu hd hi]
/-- What comes of one op. -/
theorem come_any {K : World → Prop} {NS NF : Nat} {BF CF : Array Value} {seesF : Crs → Int → Int → Int} {fallF : Crs → Int → Bool} (cS : RuleFn NS) (cF : RuleFn NF) (hS : SeesC NS seesF) (hF : FallK K NF BF CF fallF) {w0 w : World} (hK0 : K w0) {R : Nat} {q : Crs} {c : CLay} (h : CrsAt w0 w R (.func (.func NS) #[] #[]) (.func (.func NF) BF CF) q c) (hq : CrsOk 999 q) (o : Op3) (h1 : 1 ≤ o.1) (h6 : o.1 ≤ 6) :
    Calls Try.prog 54 #[.pointer (some ⟨R, 0, none⟩), .agg #[.int .i64 o.1, .int .i64 o.2.1, .int .i64 o.2.2]] w fun e w' => e = .returned (.tuple #[]) ∧ CameTo w0 w' R (.func (.func NS) #[] #[]) (.func (.func NF) BF CF) (stepQ seesF fallF q o) := by
  obtain ⟨t, a, i⟩ := o
  simp only at h1 h6
  unfold stepQ
  simp only
  by_cases e1 : a = 1
  · subst e1
    rw [if_pos rfl]
    exact come_read cS hS h hq i h1 h6
  · rw [if_neg e1]
    by_cases e2 : a = 2
    · subst e2
      rw [if_pos rfl]
      exact come_write h hq i h1 h6
    · rw [if_neg e2]
      by_cases e3 : a = 3
      · subst e3
        rw [if_pos rfl]
        exact come_commit cF hF hK0 h hq i h1 h6
      · rw [if_neg e3]
        exact come_abort h a i h1 h6 e1 e2 e3
theorem CrsOk.up {m n : Nat} {q : Crs} (h : CrsOk m q) (hm : m ≤ n) : CrsOk n q := ⟨Nat.le_trans h.lenD hm, fun t => Nat.le_trans (h.lenR t) hm, fun t => Nat.le_trans (h.lenW t) hm, h.six, h.cnt, h.begs⟩
set_option maxHeartbeats 16000000 in
set_option maxRecDepth 100000 in
theorem whole_ok {K : World → Prop} {NS NF : Nat} {BF CF : Array Value} {seesF : Crs → Int → Int → Int} {fallF : Crs → Int → Bool} (cS : RuleFn NS) (cF : RuleFn NF) (hS : SeesC NS seesF) (hF : FallK K NF BF CF fallF) (l : List Op3) (v : Value) (w : World) (hKw : ∀ W, Below w.heap.size w W → K W) (hI : IsOps w v l) (hc : (chk l).2 = 0) :
    Calls Try.prog 29 #[v, .agg #[.func (.func NS) #[] #[], .func (.func NF) BF CF]] w fun e w' => ∃ W0 R, e = .returned (.tuple #[.pointer (some ⟨R, 0, none⟩), .nilIface]) ∧ Below w.heap.size w W0 ∧ CameTo W0 w' R (.func (.func NS) #[] #[]) (.func (.func NF) BF CF) (runQ seesF fallF l l.length) := by
  obtain ⟨W0, hW0⟩ : ∃ W, W = w.alloc (.cells #[.func (.func NS) #[] #[], .func (.func NF) BF CF] 56) := ⟨_, rfl⟩
  have hb0 : Below w.heap.size w W0 := by rw [hW0]; exact (Below.refl _ w).alloc (Nat.le_refl _) _
  have HB0 := hid_q hb0
  have HKK := hid_q (hKw W0 hb0)
  have HCK := hid_q (check_ok l v W0 (hI.below hb0 (Nat.le_refl _)) hc)
  obtain ⟨hl40, hop, hcalm⟩ := (chk_iff l).1 hc
  have HOP : Hid (∀ o ∈ l, isOpB o = true) := hop
  have HOK : Hid (∀ k, k ≤ l.length → CrsOk 40 (runQ seesF fallF l k)) := fun k hk => (crsOk_all seesF fallF hop k hk).up (by omega)
  obtain ⟨ad, b, off, cap, rfl, ha, -, hbB, hops⟩ := hI
  have HE : Hid (∀ W, Below w.heap.size w W → ∀ k, k < l.length → ad = some ⟨b, off, none⟩ ∧ b < w.heap.size ∧ W.cell? ⟨b, off + k * 3, none⟩ = some (.int .i64 (opAt l k).1) ∧ W.cell? ⟨b, off + k * 3 + 1, none⟩ = some (.int .i64 (opAt l k).2.1) ∧ W.cell? ⟨b, off + k * 3 + 2, none⟩ = some (.int .i64 (opAt l k).2.2)) := fun W hW k hk => by
    refine ⟨ha (by omega), ?_, (hops.below hW hbB) k hk⟩
    rcases hbB with h | h
    · exact h
    · subst h; simp at hk
  have HCA : Hid (∀ (w w' : World) (R : Nat) (q : Crs) (c : CLay) (o : Op3), K w → CrsAt w w' R (.func (.func NS) #[] #[]) (.func (.func NF) BF CF) q c → CrsOk 40 q → 1 ≤ o.1 → o.1 ≤ 6 → Calls Try.prog 54 #[.pointer (some ⟨R, 0, none⟩), .agg #[.int .i64 o.1, .int .i64 o.2.1, .int .i64 o.2.2]] w' fun e w2 => e = .returned (.tuple #[]) ∧ CameTo w w2 R (.func (.func NS) #[] #[]) (.func (.func NF) BF CF) (stepQ seesF fallF q o)) := fun w w' R q c o hk h hq h1 h6 => come_any cS cF hS hF hk h (hq.up (by omega)) o h1 h6
  have kr : W0.heap[w.heap.size]? = some (.cells #[.func (.func NS) #[] #[], .func (.func NF) BF CF] 56 (0, 0)) := by rw [hW0]; exact World.alloc_heap_new w _
  have hsz : W0.heap.size = w.heap.size + 1 := by rw [hW0]; simp
  have HKR := hid_q kr
  have HSZ := hid_q hsz
  clear hc hop hcalm ha hbB hops hb0 kr hsz hS hF cS cF hKw
  go_enter Try.func29, Try.ntmps29
  go_upto_region 1 with (fail)
  rw [← hW0]
  obtain ⟨PR, hPR⟩ : ∃ P, P = w.heap.size := ⟨_, rfl⟩
  rw [← hPR] at HKR ⊢
  have HZZ : Hid (PR < W0.heap.size) := by have := HSZ.out; show PR < _; omega
  clear hW0 hPR
  go_wp2_with fail
  refine HCK.out.mono ?_
  rintro e w1 ⟨rfl, hb1⟩
  have HB1 := hid_q hb1
  have r0 : w1.cell? ⟨PR, 0, none⟩ = some (.func (.func NS) #[] #[]) := by rw [cell_of_row w1 PR _ _ _ _ ((hb1.block PR HZZ.out).trans HKR.out)]; rfl
  have r1 : w1.cell? ⟨PR, 1, none⟩ = some (.func (.func NF) BF CF) := by rw [cell_of_row w1 PR _ _ _ _ ((hb1.block PR HZZ.out).trans HKR.out)]; rfl
  clear hb1
  go_wp2_with fail
  refine (newCourse_crs (.func (.func NS) #[] #[]) (.func (.func NF) BF CF) ⟨_, rfl⟩ ⟨_, _, _, rfl⟩ W0 w1 HB1.out).mono ?_
  rintro e w2 ⟨R, rfl, c2, ho2⟩
  have HO2 := hid_q ho2
  clear ho2 r0 r1
  go_wp2_with fail
  go_loopw [23] (fun v23 wr => ∃ k : Nat, k ≤ l.length ∧ v23 = .int .i64 k ∧ CameTo W0 wr R (.func (.func NS) #[] #[]) (.func (.func NF) BF CF) (runQ seesF fallF l k)) (fun v23 _ => l.length - (intOf v23).toNat)
  case atStart => exact ⟨0, Nat.zero_le _, rfl, c2, HO2.out⟩
  case round =>
    obtain ⟨k, hk, rfl, ck, hok⟩ := hrel
    have HK := hid_q hok
    clear hok HO2
    by_cases hlt : k < l.length
    · have hlt' : (k : Int) < (l.length : Int) := by omega
      have HBW : Hid (Below w.heap.size w wr) := HB0.out.trans (HK.out.old.mono HB0.out.size)
      obtain ⟨rfl, hbw, e0, e1, e2⟩ := HE.out wr HBW.out k hlt
      obtain ⟨⟨t, a, i⟩, ho⟩ : ∃ o : Op3, opAt l k = o := ⟨_, rfl⟩
      have hiso : isOpB (t, a, i) = true := by rw [← ho]; exact HOP.out _ (opAt_mem hlt)
      have h16 := isOp_range hiso
      have HNX : Hid (runQ seesF fallF l (k + 1) = stepQ seesF fallF (runQ seesF fallF l k) (t, a, i)) := by show _ = _; rw [runQ, ho]
      rw [ho] at e0 e1 e2
      simp only at e0 e1 e2
      have hbR : b < wr.heap.size := Nat.lt_of_lt_of_le hbw HBW.out.size
      have HCO : Hid (∀ W, Below wr.heap.size wr W → Calls Try.prog 54 #[.pointer (some ⟨R, 0, none⟩), .agg #[.int .i64 t, .int .i64 a, .int .i64 i]] W fun e w' => e = .returned (.tuple #[]) ∧ CameTo W0 w' R (.func (.func NS) #[] #[]) (.func (.func NF) BF CF) (stepQ seesF fallF (runQ seesF fallF l k) (t, a, i))) := fun W hW =>
        HCA.out W0 W R _ ck (t, a, i) HKK.out (HK.out.below hW) (HOK.out k hk) h16.1 h16.2
      clear ho hiso h16
      go_wp2_with fail
      refine (HCO.out _ ((Below.refl _ wr).alloc (Nat.le_refl _) _)).mono ?_
      rintro e w3 ⟨rfl, ho3⟩
      have HO3 := hid_q ho3
      clear ho3 e0 e1 e2
      go_wp2_with fail
      go_roundw
      case rel => exact ⟨k + 1, by omega, by go_num, by rw [HNX.out]; exact HO3.out⟩
      case measure => simp [intOf]; omega
    · have hlt' : ¬ (k : Int) < (l.length : Int) := by omega
      obtain rfl : k = l.length := by omega
      clear hk hlt
      go_wp2_with fail
      go_ret2
      exact ⟨W0, R, rfl, HB0.out, ck, HK.out⟩
set_option maxHeartbeats 16000000 in
set_option maxRecDepth 100000 in
theorem whole_bad (S F : Value) (l : List Op3) (v : Value) (w : World) (hI : IsOps w v l) (hc : (chk l).2 ≠ 0) :
    Calls Try.prog 29 #[v, .agg #[S, F]] w fun e w' => e = .returned (.tuple #[.pointer none, .iface 104 (.int .i64 (chk l).2)]) ∧ Below w.heap.size w w' := by
  obtain ⟨W0, hW0⟩ : ∃ W, W = w.alloc (.cells #[S, F] 56) := ⟨_, rfl⟩
  have hb0 : Below w.heap.size w W0 := by rw [hW0]; exact (Below.refl _ w).alloc (Nat.le_refl _) _
  have HB0 := hid_q hb0
  have HCK := hid_q (check_bad l v W0 (hI.below hb0 (Nat.le_refl _)) hc)
  obtain ⟨ad, b, off, cap, rfl, -⟩ := hI
  obtain ⟨n, hn⟩ : ∃ n, (chk l).2 = n := ⟨_, rfl⟩
  rw [hn] at HCK ⊢
  clear hc hb0 hn
  go_enter Try.func29, Try.ntmps29
  go_upto_region 1 with (fail)
  rw [← hW0]
  clear hW0
  go_wp2_with fail
  refine HCK.out.mono ?_
  rintro e w5 ⟨rfl, hb1⟩
  have HBW := hid_q hb1
  clear hb1
  go_wp2_with fail
  go_ret2
  exact ⟨rfl, HB0.out.trans (HBW.out.mono HB0.out.size)⟩
set_option maxHeartbeats 16000000 in
set_option maxRecDepth 100000 in
theorem run_crs {K : World → Prop} {NS NF : Nat} {BF CF : Array Value} {seesF : Crs → Int → Int → Int} {fallF : Crs → Int → Bool} (cS : RuleFn NS) (cF : RuleFn NF) (hS : SeesC NS seesF) (hF : FallK K NF BF CF fallF) (l : List Op3) (v : Value) (w : World) (hKw : ∀ W, Below w.heap.size w W → K W) (hI : IsOps w v l) :
    Calls Try.prog 21 #[v, .agg #[.func (.func NS) #[] #[], .func (.func NF) BF CF]] w fun e w' => ∃ a1 a2 a3, e = .returned (.tuple #[.agg #[a1, a2, a3], errV (chk l).2]) ∧
      IsInts w' a1 (if (chk l).2 = 0 then (runQ seesF fallF l l.length).done else []) ∧ IsOps w' a2 (if (chk l).2 = 0 then (runQ seesF fallF l l.length).done.flatMap (runQ seesF fallF l l.length).read else []) ∧ IsInts w' a3 (if (chk l).2 = 0 then lastsQ (runQ seesF fallF l l.length) 6 else []) ∧ Room a1 ∧ Below w.heap.size w w' := by
  obtain ⟨W0, hW0⟩ : ∃ W, W = (w.alloc (.cells #[.func (.func NS) #[] #[], .func (.func NF) BF CF] 56)).alloc (.cells #[.slice none 0 0, .slice none 0 0, .slice none 0 0] 28) := ⟨_, rfl⟩
  have hb0 : Below w.heap.size w W0 := by rw [hW0]; exact ((Below.refl _ w).alloc (Nat.le_refl _) _).alloc (by simp) _
  have HB0 := hid_q hb0
  have kz : W0.heap[w.heap.size + 1]? = some (.cells #[.slice none 0 0, .slice none 0 0, .slice none 0 0] 28 (0, 0)) := by rw [hW0]; have := World.alloc_heap_new (w.alloc (.cells #[.func (.func NS) #[] #[], .func (.func NF) BF CF] 56)) (.cells #[.slice none 0 0, .slice none 0 0, .slice none 0 0] 28); rwa [World.size_alloc] at this
  have kr : W0.heap[w.heap.size]? = some (.cells #[.func (.func NS) #[] #[], .func (.func NF) BF CF] 56 (0, 0)) := by rw [hW0]; exact (Below.heap_alloc _ _ _ (by simp)).trans (World.alloc_heap_new w _)
  have hsz : W0.heap.size = w.heap.size + 2 := by rw [hW0]; simp
  have HKZ := hid_q kz
  have HSZ := hid_q hsz
  have r0 : W0.cell? ⟨w.heap.size, 0, none⟩ = some (.func (.func NS) #[] #[]) := by rw [cell_of_row W0 _ _ _ _ _ kr]; rfl
  have r1 : W0.cell? ⟨w.heap.size, 1, none⟩ = some (.func (.func NF) BF CF) := by rw [cell_of_row W0 _ _ _ _ _ kr]; rfl
  by_cases hc : (chk l).2 = 0
  · rw [if_pos hc, if_pos hc, if_pos hc]
    have HER : Hid (errV (chk l).2 = .nilIface) := by show _ = _; rw [hc]; exact if_pos rfl
    have HWH := hid_q (whole_ok cS cF hS hF l v W0 (fun W hW => hKw W (hb0.trans (hW.mono hb0.size))) (hI.below hb0 (Nat.le_refl _)) hc)
    obtain ⟨hl40, hop, hcalm⟩ := (chk_iff l).1 hc
    have HOK : Hid (CrsOk 100 (runQ seesF fallF l l.length)) := (crsOk_all seesF fallF hop l.length (Nat.le_refl _)).up (by omega)
    obtain ⟨ad, b, off, cap, rfl, -⟩ := hI
    clear hc hop hcalm hl40 hb0 kz kr hsz hS hF cS cF hKw
    go_enter Try.func21, Try.ntmps21
    go_upto_region 1 with (fail)
    rw [← hW0]
    obtain ⟨Z, hZ⟩ : ∃ Z, Z = w.heap.size + 1 := ⟨_, rfl⟩
    rw [← hZ] at HKZ ⊢
    obtain ⟨PR, hPR⟩ : ∃ P, P = w.heap.size := ⟨_, rfl⟩
    rw [← hPR] at r0 r1 ⊢
    have HZZ : Hid (Z < W0.heap.size ∧ w.heap.size ≤ Z) := by have := HSZ.out; exact ⟨by omega, by omega⟩
    clear hW0 hZ hPR
    go_wp2_with fail
    refine HWH.out.mono ?_
    rintro e w2 ⟨W1, R, rfl, hb1, ck, hok⟩
    have HB2 : Hid (Below W0.heap.size W0 w2) := hb1.trans (hok.old.mono hb1.size)
    have kd := hok.c2
    obtain ⟨adD, cD, eD, -⟩ := own_slice3 hok.done
    have hID := isInts_own hok.done rfl
    rw [eD] at kd hID
    have HOC := hid_q (outcome_crs hok HOK.out _ _ hID HOK.out.six HOK.out.lenD)
    obtain ⟨ND, hND⟩ : ∃ n, (runQ seesF fallF l l.length).done.length = n := ⟨_, rfl⟩
    rw [hND] at kd HOC
    have hRlt := hok.lt
    clear eD hID hND
    clear hb1 hok r0 r1
    go_wp2_with fail
    refine HOC.out.mono ?_
    rintro e w5 ⟨a1, a2, a3, rfl, hi1, hi2, hi3, hr, hb5⟩
    have HBW : Hid (Below W0.heap.size W0 w5) := HB2.out.trans (hb5.mono HB2.out.size)
    have hz5 := (HBW.out.block Z HZZ.out.1).trans HKZ.out
    have HF5 := hid_q (fin5 hz5 HZZ.out.2 (HB0.out.trans (HBW.out.mono HB0.out.size)) (u1 := a1) (u2 := a2) (u3 := a3) hi1 hi2 hi3)
    have HRR := hid_q hr
    have z0 : w5.cell? ⟨Z, 0, none⟩ = some (.slice none 0 0) := by rw [cell_of_row w5 Z _ _ _ _ hz5]; rfl
    have z1 : w5.cell? ⟨Z, 1, none⟩ = some (.slice none 0 0) := by rw [cell_of_row w5 Z _ _ _ _ hz5]; rfl
    have z2 : w5.cell? ⟨Z, 2, none⟩ = some (.slice none 0 0) := by rw [cell_of_row w5 Z _ _ _ _ hz5]; rfl
    have y0 : w5.frozen? ⟨Z, 0, none⟩ = false := by simp [World.frozen?, hz5]
    have y1 : w5.frozen? ⟨Z, 1, none⟩ = false := by simp [World.frozen?, hz5]
    have y2 : w5.frozen? ⟨Z, 2, none⟩ = false := by simp [World.frozen?, hz5]
    obtain ⟨d1, n1, p1, x1⟩ : ∃ d n p, a1 = .slice d n p := by obtain ⟨a, _, _, c, h, _⟩ := hi1; exact ⟨a, _, c, h⟩
    obtain ⟨d2, n2, p2, x2⟩ : ∃ d n p, a2 = .slice d n p := by obtain ⟨a, _, _, c, h, _⟩ := hi2; exact ⟨a, _, c, h⟩
    obtain ⟨d3, n3, p3, x3⟩ : ∃ d n p, a3 = .slice d n p := by obtain ⟨a, _, _, c, h, _⟩ := hi3; exact ⟨a, _, c, h⟩
    subst x1 x2 x3
    clear hi1 hi2 hi3 hr hb5 hz5
    go_wp2_with fail
    refine bodyPost_ret (v := .tuple #[.agg #[.slice d1 n1 p1, .slice d2 n2 p2, .slice d3 n3 p3], .nilIface]) (results_twoQ Try.results21 _ _ Z 28 #[.slice d1 n1 p1, .slice d2 n2 p2, .slice d3 n3 p3] (0, 0) _ .nilIface rfl rfl HF5.out.1 Try.underlying28 rfl outcome_infoQ) rfl ⟨_, _, _, by rw [HER.out], HF5.out.2.1, HF5.out.2.2.1, HF5.out.2.2.2.1, HRR.out, HF5.out.2.2.2.2⟩
  · rw [if_neg hc, if_neg hc, if_neg hc]
    have HER : Hid (errV (chk l).2 = .iface 104 (.int .i64 (chk l).2)) := by show _ = _; unfold errV; rw [if_neg hc]
    have HWH := hid_q (whole_bad (.func (.func NS) #[] #[]) (.func (.func NF) BF CF) l v W0 (hI.below hb0 (Nat.le_refl _)) hc)
    obtain ⟨ad, b, off, cap, rfl, -⟩ := hI
    obtain ⟨n, hn⟩ : ∃ n, (chk l).2 = n := ⟨_, rfl⟩
    rw [hn] at HER HWH ⊢
    clear hc hb0 kz kr hsz hS hF cS cF hn hKw
    go_enter Try.func21, Try.ntmps21
    go_upto_region 1 with (fail)
    rw [← hW0]
    obtain ⟨Z, hZ⟩ : ∃ Z, Z = w.heap.size + 1 := ⟨_, rfl⟩
    rw [← hZ] at HKZ ⊢
    obtain ⟨PR, hPR⟩ : ∃ P, P = w.heap.size := ⟨_, rfl⟩
    rw [← hPR] at r0 r1 ⊢
    have HZZ : Hid (Z < W0.heap.size ∧ w.heap.size ≤ Z) := by have := HSZ.out; exact ⟨by omega, by omega⟩
    clear hW0 hZ hPR
    go_wp2_with fail
    refine HWH.out.mono ?_
    rintro e w5 ⟨rfl, hb1⟩
    have HBW := hid_q hb1
    have hz5 := (HBW.out.block Z HZZ.out.1).trans HKZ.out
    have HF5 := hid_q (fin5 hz5 HZZ.out.2 (HB0.out.trans (HBW.out.mono HB0.out.size)) (u1 := .slice none 0 0) (u2 := .slice none 0 0) (u3 := .slice none 0 0) (isInts_nil _) (isOps_nilQ _) (isInts_nil _))
    have z0 : w5.cell? ⟨Z, 0, none⟩ = some (.slice none 0 0) := by rw [cell_of_row w5 Z _ _ _ _ hz5]; rfl
    have z1 : w5.cell? ⟨Z, 1, none⟩ = some (.slice none 0 0) := by rw [cell_of_row w5 Z _ _ _ _ hz5]; rfl
    have z2 : w5.cell? ⟨Z, 2, none⟩ = some (.slice none 0 0) := by rw [cell_of_row w5 Z _ _ _ _ hz5]; rfl
    have y0 : w5.frozen? ⟨Z, 0, none⟩ = false := by simp [World.frozen?, hz5]
    have y1 : w5.frozen? ⟨Z, 1, none⟩ = false := by simp [World.frozen?, hz5]
    have y2 : w5.frozen? ⟨Z, 2, none⟩ = false := by simp [World.frozen?, hz5]
    clear hb1 hz5 r0 r1
    go_wp2_with fail
    refine bodyPost_ret (v := .tuple #[.agg #[.slice none 0 0, .slice none 0 0, .slice none 0 0], .iface 104 (.int .i64 n)]) (results_twoQ Try.results21 _ _ Z 28 #[.slice none 0 0, .slice none 0 0, .slice none 0 0] (0, 0) _ (.iface 104 (.int .i64 n)) rfl rfl HF5.out.1 Try.underlying28 rfl outcome_infoQ) rfl ⟨_, _, _, by rw [HER.out], HF5.out.2.1, HF5.out.2.2.1, HF5.out.2.2.2.1, ⟨_, _, _, rfl, Nat.le_refl _⟩, HF5.out.2.2.2.2⟩
theorem call_latest : RuleFn 26 := fun _ _ => by kernel_rfl
theorem call_stale : RuleFn 27 := fun _ _ => by kernel_rfl
theorem outV (l : List Op3) : outU 1 okV false l = ((if (chk l).2 = 0 then (runQ seesV fallV l l.length).done else [], if (chk l).2 = 0 then (runQ seesV fallV l l.length).done.flatMap (runQ seesV fallV l l.length).read else [], if (chk l).2 = 0 then lastsQ (runQ seesV fallV l l.length) 6 else []), (chk l).2) := by
  by_cases hc : (chk l).2 = 0
  · rw [if_pos hc, if_pos hc, if_pos hc, crs_out rulesV hc, hc]; rfl
  · rw [if_neg hc, if_neg hc, if_neg hc, outU_bad hc]
set_option maxHeartbeats 8000000 in
set_option maxRecDepth 100000 in
theorem validC : RunsC 16 1 okV false := by
  intro l v w hI
  rw [outV]
  have HRC : Hid (∀ W, Below w.heap.size w W → _) := fun W hW => run_crs call_latest call_stale seesV_c fallV_c.k l v W (fun _ _ => trivial) (hI.below hW (Nat.le_refl _))
  obtain ⟨A, hA⟩ : ∃ A, (if (chk l).2 = 0 then (runQ seesV fallV l l.length).done else []) = A := ⟨_, rfl⟩
  obtain ⟨B, hB⟩ : ∃ B, (if (chk l).2 = 0 then (runQ seesV fallV l l.length).done.flatMap (runQ seesV fallV l l.length).read else []) = B := ⟨_, rfl⟩
  obtain ⟨C, hC⟩ : ∃ C, (if (chk l).2 = 0 then lastsQ (runQ seesV fallV l l.length) 6 else []) = C := ⟨_, rfl⟩
  obtain ⟨er, her⟩ : ∃ e, errV (chk l).2 = e := ⟨_, rfl⟩
  have HER : Hid (er = .nilIface ∨ ∃ n, er = .iface 104 (.int .i64 n)) := by
    show _ ∨ _
    rw [← her]
    unfold errV
    split
    · exact .inl rfl
    · exact .inr ⟨_, rfl⟩
  rw [hA, hB, hC, her] at HRC
  simp only
  rw [hA, hB, hC, her]
  obtain ⟨ad, b, off, cap, rfl, -⟩ := hI
  obtain ⟨W0, hW0⟩ : ∃ W, W = w.alloc (.cells #[.slice none 0 0, .slice none 0 0, .slice none 0 0] 28) := ⟨_, rfl⟩
  have hb0 : Below w.heap.size w W0 := by rw [hW0]; exact (Below.refl _ w).alloc (Nat.le_refl _) _
  have HB0 := hid_q hb0
  have HCK := hid_q (HRC.out W0 hb0)
  have kz : W0.heap[w.heap.size]? = some (.cells #[.slice none 0 0, .slice none 0 0, .slice none 0 0] 28 (0, 0)) := by rw [hW0]; exact World.alloc_heap_new w _
  have HKZ := hid_q kz
  have hsz : W0.heap.size = w.heap.size + 1 := by rw [hW0]; simp
  have HSZ := hid_q hsz
  clear hA hB hC her HRC hb0 kz hsz
  go_enter Try.func16, Try.ntmps16
  go_upto_region 1 with (fail)
  rw [← hW0]
  obtain ⟨Z, hZ⟩ : ∃ Z, Z = w.heap.size := ⟨_, rfl⟩
  rw [← hZ] at HKZ ⊢
  have HZZ : Hid (Z < W0.heap.size ∧ w.heap.size ≤ Z) := by have := HSZ.out; exact ⟨by omega, by omega⟩
  clear hW0 hZ
  go_wp2_with fail
  refine HCK.out.mono ?_
  rintro e w5 ⟨a1, a2, a3, rfl, hi1, hi2, hi3, hr, hb5⟩
  have hz5 := (hb5.block Z HZZ.out.1).trans HKZ.out
  have HF5 := hid_q (fin5 hz5 HZZ.out.2 (HB0.out.trans (hb5.mono HB0.out.size)) (u1 := a1) (u2 := a2) (u3 := a3) hi1 hi2 hi3)
  have HRR := hid_q hr
  have z0 : w5.cell? ⟨Z, 0, none⟩ = some (.slice none 0 0) := by rw [cell_of_row w5 Z _ _ _ _ hz5]; rfl
  have z1 : w5.cell? ⟨Z, 1, none⟩ = some (.slice none 0 0) := by rw [cell_of_row w5 Z _ _ _ _ hz5]; rfl
  have z2 : w5.cell? ⟨Z, 2, none⟩ = some (.slice none 0 0) := by rw [cell_of_row w5 Z _ _ _ _ hz5]; rfl
  have y0 : w5.frozen? ⟨Z, 0, none⟩ = false := by simp [World.frozen?, hz5]
  have y1 : w5.frozen? ⟨Z, 1, none⟩ = false := by simp [World.frozen?, hz5]
  have y2 : w5.frozen? ⟨Z, 2, none⟩ = false := by simp [World.frozen?, hz5]
  obtain ⟨d1, n1, p1, x1⟩ : ∃ d n p, a1 = .slice d n p := by obtain ⟨a, _, _, c, h, _⟩ := hi1; exact ⟨a, _, c, h⟩
  obtain ⟨d2, n2, p2, x2⟩ : ∃ d n p, a2 = .slice d n p := by obtain ⟨a, _, _, c, h, _⟩ := hi2; exact ⟨a, _, c, h⟩
  obtain ⟨d3, n3, p3, x3⟩ : ∃ d n p, a3 = .slice d n p := by obtain ⟨a, _, _, c, h, _⟩ := hi3; exact ⟨a, _, c, h⟩
  subst x1 x2 x3
  clear hi1 hi2 hi3 hr hb5 hz5
  rcases HER.out with rfl | ⟨ne, rfl⟩
  · go_wp2_with fail
    exact bodyPost_ret (v := .tuple #[.agg #[.slice d1 n1 p1, .slice d2 n2 p2, .slice d3 n3 p3], .nilIface]) (results_twoQ Try.results16 _ _ Z 28 #[.slice d1 n1 p1, .slice d2 n2 p2, .slice d3 n3 p3] (0, 0) _ .nilIface rfl rfl HF5.out.1 Try.underlying28 rfl outcome_infoQ) rfl ⟨_, _, _, rfl, HF5.out.2.1, HF5.out.2.2.1, HF5.out.2.2.2.1, HRR.out, HF5.out.2.2.2.2⟩
  · go_wp2_with fail
    exact bodyPost_ret (v := .tuple #[.agg #[.slice d1 n1 p1, .slice d2 n2 p2, .slice d3 n3 p3], .iface 104 (.int .i64 ne)]) (results_twoQ Try.results16 _ _ Z 28 #[.slice d1 n1 p1, .slice d2 n2 p2, .slice d3 n3 p3] (0, 0) _ (.iface 104 (.int .i64 ne)) rfl rfl HF5.out.1 Try.underlying28 rfl outcome_infoQ) rfl ⟨_, _, _, rfl, HF5.out.2.1, HF5.out.2.2.1, HF5.out.2.2.2.1, HRR.out, HF5.out.2.2.2.2⟩
end Go.Proofs.Ytccjognnehoodag
