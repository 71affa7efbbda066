/-
  PROVED HERE: package course: Whole and Run, by any two rules, go over ops as chapters 11 to 14 have it for such rules; package valid keeps what it is asked (RunsC). Old memory stays as it was.
  Conditions: what the rules answer is a premise of the first.
  PROVED HERE: plain facts, with no word of the program: NOBODY BETWEEN, AS IF ONE BEHIND THE OTHER (Fekete): of deals that see what was when they began (chapter 13, as KindPlain has it), if nobody is between, there is an order of those that are done by which each saw what those ahead of it wrote; and if nobody is between of what is done by what was when deals began, both runs are one.
  Conditions: none.
-/
import Derived.Test.YtccjognnehoodahGreatMgaz
import Derived.Test.YtccjognnehoodahGreatMgak
namespace Go.Proofs.YtccjognnehoodahGreat
open Go.RowKit

set_option maxHeartbeats 4000000 in
set_option maxRecDepth 100000 in
theorem newCourse_crs (S F : Value) (hS : ∃ N, S = .func (.func N) #[] #[]) (hF : ∃ N B C, F = .func (.func N) B C) (w0 w : World) (hb : Below w0.heap.size w0 w) :
    Calls Tryz.prog 66 #[.agg #[S, F]] w fun e w' => ∃ R, e = .returned (.pointer (some ⟨R, 0, none⟩)) ∧ ∃ c, CrsAt w0 w' R S F crs0 c := by
  obtain ⟨N1, rfl⟩ := hS
  obtain ⟨N2, B2, C2, rfl⟩ := hF
  have hmm := @run_makeMap Tryz.prog
  have HM := hid_q (crs_made w0 (w.alloc (.cells #[.func (.func N1) #[] #[], .func (.func N2) B2 C2] 67)) (hb.alloc hb.size _) (.func (.func N1) #[] #[]) (.func (.func N2) B2 C2))
  simp only [World.size_alloc] at HM
  clear hb
  go_enter Tryz.func66, Tryz.ntmps66
  go_wp2_with fail
  go_ret
  exact ⟨_, rfl, _, HM.out⟩
theorem isOps_nilQ (w : World) : IsOps w (.slice none 0 0) [] := ⟨none, 0, 0, 0, rfl, fun h => absurd h (by simp), fun _ => ⟨rfl, rfl⟩, .inr rfl, fun i hi => by simp at hi⟩
theorem results_twoQ {P : Program} {fn : Func} {p q : Tmp} {ty : TypeId} (h : fn.results = #[.cell p ty, .tmp q]) (tmps : Array Value) (w : World) (g : Nat) (t : TypeId) (cs : Array Value) (fr : Nat × Nat) (d : TypeDesc) (v : Value)
    (hp : tmps.getD p undef = .pointer (some ⟨g, 0, none⟩)) (hq : tmps.getD q undef = v) (hg : w.heap[g]? = some (.cells cs t fr))
    (hu : P.underlying ty = some d) (hd : (match d with | .struct _ | .array _ _ => true | _ => false) = true) (hi : (P.info? ty).map (·.size) = some cs.size) :
    (results fn tmps).run P w = .ok (.tuple #[.agg cs, v]) w := by
  have hp' : tmps[p]?.getD undef = .pointer (some ⟨g, 0, none⟩) := by simpa using hp
  have hq' : tmps[q]?.getD undef = v := by simpa using hq
  simp [results, h, hp', hq', asAddr, run_loadVar_row w g t ty cs fr d hg hu hd hi]
/-- What comes of one op. -/
theorem come_any {K : World → Prop} {NS NF : Nat} {BF CF : Array Value} {seesF : Crs → Int → Int → Int} {fallF : Crs → Int → Bool} (cS : RuleFn NS) (cF : RuleFn NF) (hS : SeesC NS seesF) (hF : FallK K NF BF CF fallF) {w0 w : World} (hK0 : K w0) {R : Nat} {q : Crs} {c : CLay} (h : CrsAt w0 w R (.func (.func NS) #[] #[]) (.func (.func NF) BF CF) q c) (hq : CrsOk 999 q) (o : Op3) (h1 : 1 ≤ o.1) (h6 : o.1 ≤ 6) :
    Calls Tryz.prog 67 #[.pointer (some ⟨R, 0, none⟩), .agg #[.int .i64 o.1, .int .i64 o.2.1, .int .i64 o.2.2]] w fun e w' => e = .returned (.tuple #[]) ∧ CameTo w0 w' R (.func (.func NS) #[] #[]) (.func (.func NF) BF CF) (stepQ seesF fallF q o) := by
  obtain ⟨t, a, i⟩ := o
  simp only at h1 h6
  unfold stepQ
  simp only
  by_cases e1 : a = 1
  · subst e1
    rw [if_pos rfl]
    exact come_read cS hS h hq i h1 h6
  · rw [if_neg e1]
    by_cases e2 : a = 2
    · subst e2
      rw [if_pos rfl]
      exact come_write h hq i h1 h6
    · rw [if_neg e2]
      by_cases e3 : a = 3
      · subst e3
        rw [if_pos rfl]
        exact come_commit cF hF hK0 h hq i h1 h6
      · rw [if_neg e3]
        exact come_abort h a i h1 h6 e1 e2 e3
theorem CrsOk.up {m n : Nat} {q : Crs} (h : CrsOk m q) (hm : m ≤ n) : CrsOk n q := ⟨Nat.le_trans h.lenD hm, fun t => Nat.le_trans (h.lenR t) hm, fun t => Nat.le_trans (h.lenW t) hm, h.six, h.cnt, h.begs⟩
set_option maxHeartbeats 16000000 in
set_option maxRecDepth 100000 in
theorem whole_ok {K : World → Prop} {NS NF : Nat} {BF CF : Array Value} {seesF : Crs → Int → Int → Int} {fallF : Crs → Int → Bool} (cS : RuleFn NS) (cF : RuleFn NF) (hS : SeesC NS seesF) (hF : FallK K NF BF CF fallF) (l : List Op3) (v : Value) (w : World) (hKw : ∀ W, Below w.heap.size w W → K W) (hI : IsOps w v l) (hc : (chk l).2 = 0) :
    Calls Tryz.prog 30 #[v, .agg #[.func (.func NS) #[] #[], .func (.func NF) BF CF]] w fun e w' => ∃ W0 R, e = .returned (.tuple #[.pointer (some ⟨R, 0, none⟩), .nilIface]) ∧ Below w.heap.size w W0 ∧ CameTo W0 w' R (.func (.func NS) #[] #[]) (.func (.func NF) BF CF) (runQ seesF fallF l l.length) := by
  obtain ⟨W0, hW0⟩ : ∃ W, W = w.alloc (.cells #[.func (.func NS) #[] #[], .func (.func NF) BF CF] 67) := ⟨_, rfl⟩
  have hb0 : Below w.heap.size w W0 := by rw [hW0]; exact (Below.refl _ w).alloc (Nat.le_refl _) _
  have HB0 := hid_q hb0
  have HKK := hid_q (hKw W0 hb0)
  have HCK := hid_q (check_ok l v W0 (hI.below hb0 (Nat.le_refl _)) hc)
  obtain ⟨hl40, hop, hcalm⟩ := (chk_iff l).1 hc
  have HOP : Hid (∀ o ∈ l, isOpB o = true) := hop
  have HOK : Hid (∀ k, k ≤ l.length → CrsOk 40 (runQ seesF fallF l k)) := fun k hk => (crsOk_all seesF fallF hop k hk).up (by omega)
  obtain ⟨ad, b, off, cap, rfl, ha, -, hbB, hops⟩ := hI
  have HE : Hid (∀ W, Below w.heap.size w W → ∀ k, k < l.length → ad = some ⟨b, off, none⟩ ∧ b < w.heap.size ∧ W.cell? ⟨b, off + k * 3, none⟩ = some (.int .i64 (opAt l k).1) ∧ W.cell? ⟨b, off + k * 3 + 1, none⟩ = some (.int .i64 (opAt l k).2.1) ∧ W.cell? ⟨b, off + k * 3 + 2, none⟩ = some (.int .i64 (opAt l k).2.2)) := fun W hW k hk => by
    refine ⟨ha (by omega), ?_, (hops.below hW hbB) k hk⟩
    rcases hbB with h | h
    · exact h
    · subst h; simp at hk
  have HCA : Hid (∀ (w w' : World) (R : Nat) (q : Crs) (c : CLay) (o : Op3), K w → CrsAt w w' R (.func (.func NS) #[] #[]) (.func (.func NF) BF CF) q c → CrsOk 40 q → 1 ≤ o.1 → o.1 ≤ 6 → Calls Tryz.prog 67 #[.pointer (some ⟨R, 0, none⟩), .agg #[.int .i64 o.1, .int .i64 o.2.1, .int .i64 o.2.2]] w' fun e w2 => e = .returned (.tuple #[]) ∧ CameTo w w2 R (.func (.func NS) #[] #[]) (.func (.func NF) BF CF) (stepQ seesF fallF q o)) := fun w w' R q c o hk h hq h1 h6 => come_any cS cF hS hF hk h (hq.up (by omega)) o h1 h6
  have kr : W0.heap[w.heap.size]? = some (.cells #[.func (.func NS) #[] #[], .func (.func NF) BF CF] 67 (0, 0)) := by rw [hW0]; exact World.alloc_heap_new w _
  have hsz : W0.heap.size = w.heap.size + 1 := by rw [hW0]; simp
  have HKR := hid_q kr
  have HSZ := hid_q hsz
  clear hc hop hcalm ha hbB hops hb0 kr hsz hS hF cS cF hKw
  go_enter Tryz.func30, Tryz.ntmps30
  go_upto_region 1 with (fail)
  rw [← hW0]
  obtain ⟨PR, hPR⟩ : ∃ P, P = w.heap.size := ⟨_, rfl⟩
  rw [← hPR] at HKR ⊢
  have HZZ : Hid (PR < W0.heap.size) := by have := HSZ.out; show PR < _; omega
  clear hW0 hPR
  go_wp2_with fail
  refine HCK.out.mono ?_
  rintro e w1 ⟨rfl, hb1⟩
  have HB1 := hid_q hb1
  have r0 : w1.cell? ⟨PR, 0, none⟩ = some (.func (.func NS) #[] #[]) := by rw [cell_of_row w1 PR _ _ _ _ ((hb1.block PR HZZ.out).trans HKR.out)]; rfl
  have r1 : w1.cell? ⟨PR, 1, none⟩ = some (.func (.func NF) BF CF) := by rw [cell_of_row w1 PR _ _ _ _ ((hb1.block PR HZZ.out).trans HKR.out)]; rfl
  clear hb1
  go_wp2_with fail
  refine (newCourse_crs (.func (.func NS) #[] #[]) (.func (.func NF) BF CF) ⟨_, rfl⟩ ⟨_, _, _, rfl⟩ W0 w1 HB1.out).mono ?_
  rintro e w2 ⟨R, rfl, c2, ho2⟩
  have HO2 := hid_q ho2
  clear ho2 r0 r1
  go_wp2_with fail
  go_loopw [23] (fun v23 wr => ∃ k : Nat, k ≤ l.length ∧ v23 = .int .i64 k ∧ CameTo W0 wr R (.func (.func NS) #[] #[]) (.func (.func NF) BF CF) (runQ seesF fallF l k)) (fun v23 _ => l.length - (intOf v23).toNat)
  case atStart => exact ⟨0, Nat.zero_le _, rfl, c2, HO2.out⟩
  case round =>
    obtain ⟨k, hk, rfl, ck, hok⟩ := hrel
    have HK := hid_q hok
    clear hok HO2
    by_cases hlt : k < l.length
    · have hlt' : (k : Int) < (l.length : Int) := by omega
      have HBW : Hid (Below w.heap.size w wr) := HB0.out.trans (HK.out.old.mono HB0.out.size)
      obtain ⟨rfl, hbw, e0, e1, e2⟩ := HE.out wr HBW.out k hlt
      obtain ⟨⟨t, a, i⟩, ho⟩ : ∃ o : Op3, opAt l k = o := ⟨_, rfl⟩
      have hiso : isOpB (t, a, i) = true := by rw [← ho]; exact HOP.out _ (opAt_mem hlt)
      have h16 := isOp_range hiso
      have HNX : Hid (runQ seesF fallF l (k + 1) = stepQ seesF fallF (runQ seesF fallF l k) (t, a, i)) := by show _ = _; rw [runQ, ho]
      rw [ho] at e0 e1 e2
      simp only at e0 e1 e2
      have hbR : b < wr.heap.size := Nat.lt_of_lt_of_le hbw HBW.out.size
      have HCO : Hid (∀ W, Below wr.heap.size wr W → Calls Tryz.prog 67 #[.pointer (some ⟨R, 0, none⟩), .agg #[.int .i64 t, .int .i64 a, .int .i64 i]] W fun e w' => e = .returned (.tuple #[]) ∧ CameTo W0 w' R (.func (.func NS) #[] #[]) (.func (.func NF) BF CF) (stepQ seesF fallF (runQ seesF fallF l k) (t, a, i))) := fun W hW =>
        HCA.out W0 W R _ ck (t, a, i) HKK.out (HK.out.below hW) (HOK.out k hk) h16.1 h16.2
      clear ho hiso h16
      go_wp2_with fail
      refine (HCO.out _ ((Below.refl _ wr).alloc (Nat.le_refl _) _)).mono ?_
      rintro e w3 ⟨rfl, ho3⟩
      have HO3 := hid_q ho3
      clear ho3 e0 e1 e2
      go_wp2_with fail
      go_roundw
      case rel => exact ⟨k + 1, by omega, by go_num, by rw [HNX.out]; exact HO3.out⟩
      case measure => simp [intOf]; omega
    · have hlt' : ¬ (k : Int) < (l.length : Int) := by omega
      obtain rfl : k = l.length := by omega
      clear hk hlt
      go_wp2_with fail
      go_ret2
      exact ⟨W0, R, rfl, HB0.out, ck, HK.out⟩
set_option maxHeartbeats 16000000 in
set_option maxRecDepth 100000 in
theorem whole_bad (S F : Value) (l : List Op3) (v : Value) (w : World) (hI : IsOps w v l) (hc : (chk l).2 ≠ 0) :
    Calls Tryz.prog 30 #[v, .agg #[S, F]] w fun e w' => e = .returned (.tuple #[.pointer none, .iface 61 (.int .i64 (chk l).2)]) ∧ Below w.heap.size w w' := by
  obtain ⟨W0, hW0⟩ : ∃ W, W = w.alloc (.cells #[S, F] 67) := ⟨_, rfl⟩
  have hb0 : Below w.heap.size w W0 := by rw [hW0]; exact (Below.refl _ w).alloc (Nat.le_refl _) _
  have HB0 := hid_q hb0
  have HCK := hid_q (check_bad l v W0 (hI.below hb0 (Nat.le_refl _)) hc)
  obtain ⟨ad, b, off, cap, rfl, -⟩ := hI
  obtain ⟨n, hn⟩ : ∃ n, (chk l).2 = n := ⟨_, rfl⟩
  rw [hn] at HCK ⊢
  clear hc hb0 hn
  go_enter Tryz.func30, Tryz.ntmps30
  go_upto_region 1 with (fail)
  rw [← hW0]
  clear hW0
  go_wp2_with fail
  refine HCK.out.mono ?_
  rintro e w5 ⟨rfl, hb1⟩
  have HBW := hid_q hb1
  clear hb1
  go_wp2_with fail
  go_ret2
  exact ⟨rfl, HB0.out.trans (HBW.out.mono HB0.out.size)⟩
set_option maxHeartbeats 16000000 in
set_option maxRecDepth 100000 in
theorem run_crs {K : World → Prop} {NS NF : Nat} {BF CF : Array Value} {seesF : Crs → Int → Int → Int} {fallF : Crs → Int → Bool} (cS : RuleFn NS) (cF : RuleFn NF) (hS : SeesC NS seesF) (hF : FallK K NF BF CF fallF) (l : List Op3) (v : Value) (w : World) (hKw : ∀ W, Below w.heap.size w W → K W) (hI : IsOps w v l) :
    Calls Tryz.prog 26 #[v, .agg #[.func (.func NS) #[] #[], .func (.func NF) BF CF]] w fun e w' => ∃ a1 a2 a3, e = .returned (.tuple #[.agg #[a1, a2, a3], errV (chk l).2]) ∧
      IsInts w' a1 (if (chk l).2 = 0 then (runQ seesF fallF l l.length).done else []) ∧ IsOps w' a2 (if (chk l).2 = 0 then (runQ seesF fallF l l.length).done.flatMap (runQ seesF fallF l l.length).read else []) ∧ IsInts w' a3 (if (chk l).2 = 0 then lastsQ (runQ seesF fallF l l.length) 6 else []) ∧ Room a1 ∧ Below w.heap.size w w' := by
  obtain ⟨W0, hW0⟩ : ∃ W, W = (w.alloc (.cells #[.func (.func NS) #[] #[], .func (.func NF) BF CF] 67)).alloc (.cells #[.slice none 0 0, .slice none 0 0, .slice none 0 0] 34) := ⟨_, rfl⟩
  have hb0 : Below w.heap.size w W0 := by rw [hW0]; exact ((Below.refl _ w).alloc (Nat.le_refl _) _).alloc (by simp) _
  have HB0 := hid_q hb0
  have kz : W0.heap[w.heap.size + 1]? = some (.cells #[.slice none 0 0, .slice none 0 0, .slice none 0 0] 34 (0, 0)) := by rw [hW0]; have := World.alloc_heap_new (w.alloc (.cells #[.func (.func NS) #[] #[], .func (.func NF) BF CF] 67)) (.cells #[.slice none 0 0, .slice none 0 0, .slice none 0 0] 34); rwa [World.size_alloc] at this
  have kr : W0.heap[w.heap.size]? = some (.cells #[.func (.func NS) #[] #[], .func (.func NF) BF CF] 67 (0, 0)) := by rw [hW0]; exact (Below.heap_alloc _ _ _ (by simp)).trans (World.alloc_heap_new w _)
  have hsz : W0.heap.size = w.heap.size + 2 := by rw [hW0]; simp
  have HKZ := hid_q kz
  have HSZ := hid_q hsz
  have r0 : W0.cell? ⟨w.heap.size, 0, none⟩ = some (.func (.func NS) #[] #[]) := by rw [cell_of_row W0 _ _ _ _ _ kr]; rfl
  have r1 : W0.cell? ⟨w.heap.size, 1, none⟩ = some (.func (.func NF) BF CF) := by rw [cell_of_row W0 _ _ _ _ _ kr]; rfl
  by_cases hc : (chk l).2 = 0
  · rw [if_pos hc, if_pos hc, if_pos hc]
    have HER : Hid (errV (chk l).2 = .nilIface) := by show _ = _; rw [hc]; exact if_pos rfl
    have HWH := hid_q (whole_ok cS cF hS hF l v W0 (fun W hW => hKw W (hb0.trans (hW.mono hb0.size))) (hI.below hb0 (Nat.le_refl _)) hc)
    obtain ⟨hl40, hop, hcalm⟩ := (chk_iff l).1 hc
    have HOK : Hid (CrsOk 100 (runQ seesF fallF l l.length)) := (crsOk_all seesF fallF hop l.length (Nat.le_refl _)).up (by omega)
    obtain ⟨ad, b, off, cap, rfl, -⟩ := hI
    clear hc hop hcalm hl40 hb0 kz kr hsz hS hF cS cF hKw
    go_enter Tryz.func26, Tryz.ntmps26
    go_upto_region 1 with (fail)
    rw [← hW0]
    obtain ⟨Z, hZ⟩ : ∃ Z, Z = w.heap.size + 1 := ⟨_, rfl⟩
    rw [← hZ] at HKZ ⊢
    obtain ⟨PR, hPR⟩ : ∃ P, P = w.heap.size := ⟨_, rfl⟩
    rw [← hPR] at r0 r1 ⊢
    have HZZ : Hid (Z < W0.heap.size ∧ w.heap.size ≤ Z) := by have := HSZ.out; exact ⟨by omega, by omega⟩
    clear hW0 hZ hPR
    go_wp2_with fail
    refine HWH.out.mono ?_
    rintro e w2 ⟨W1, R, rfl, hb1, ck, hok⟩
    have HB2 : Hid (Below W0.heap.size W0 w2) := hb1.trans (hok.old.mono hb1.size)
    have kd := hok.c2
    obtain ⟨adD, cD, eD, -⟩ := own_slice3 hok.done
    have hID := isInts_own hok.done rfl
    rw [eD] at kd hID
    have HOC := hid_q (outcome_crs hok HOK.out _ _ hID HOK.out.six HOK.out.lenD)
    obtain ⟨ND, hND⟩ : ∃ n, (runQ seesF fallF l l.length).done.length = n := ⟨_, rfl⟩
    rw [hND] at kd HOC
    have hRlt := hok.lt
    clear eD hID hND
    clear hb1 hok r0 r1
    go_wp2_with fail
    refine HOC.out.mono ?_
    rintro e w5 ⟨a1, a2, a3, rfl, hi1, hi2, hi3, hr, hb5⟩
    have HBW : Hid (Below W0.heap.size W0 w5) := HB2.out.trans (hb5.mono HB2.out.size)
    have hz5 := (HBW.out.block Z HZZ.out.1).trans HKZ.out
    have HF5 := hid_q (fin5 hz5 HZZ.out.2 (HB0.out.trans (HBW.out.mono HB0.out.size)) (u1 := a1) (u2 := a2) (u3 := a3) hi1 hi2 hi3)
    have HRR := hid_q hr
    have z0 : w5.cell? ⟨Z, 0, none⟩ = some (.slice none 0 0) := by rw [cell_of_row w5 Z _ _ _ _ hz5]; rfl
    have z1 : w5.cell? ⟨Z, 1, none⟩ = some (.slice none 0 0) := by rw [cell_of_row w5 Z _ _ _ _ hz5]; rfl
    have z2 : w5.cell? ⟨Z, 2, none⟩ = some (.slice none 0 0) := by rw [cell_of_row w5 Z _ _ _ _ hz5]; rfl
    have y0 : w5.frozen? ⟨Z, 0, none⟩ = false := by simp [World.frozen?, hz5]
    have y1 : w5.frozen? ⟨Z, 1, none⟩ = false := by simp [World.frozen?, hz5]
    have y2 : w5.frozen? ⟨Z, 2, none⟩ = false := by simp [World.frozen?, hz5]
    obtain ⟨d1, n1, p1, x1⟩ : ∃ d n p, a1 = .slice d n p := by obtain ⟨a, _, _, c, h, _⟩ := hi1; exact ⟨a, _, c, h⟩
    obtain ⟨d2, n2, p2, x2⟩ : ∃ d n p, a2 = .slice d n p := by obtain ⟨a, _, _, c, h, _⟩ := hi2; exact ⟨a, _, c, h⟩
    obtain ⟨d3, n3, p3, x3⟩ : ∃ d n p, a3 = .slice d n p := by obtain ⟨a, _, _, c, h, _⟩ := hi3; exact ⟨a, _, c, h⟩
    subst x1 x2 x3
    clear hi1 hi2 hi3 hr hb5 hz5
    go_wp2_with fail
    refine bodyPost_ret (v := .tuple #[.agg #[.slice d1 n1 p1, .slice d2 n2 p2, .slice d3 n3 p3], .nilIface]) (results_twoQ Tryz.results26 _ _ Z 34 #[.slice d1 n1 p1, .slice d2 n2 p2, .slice d3 n3 p3] (0, 0) _ .nilIface rfl rfl HF5.out.1 Tryz.underlying34 rfl outcome_infoQ) rfl ⟨_, _, _, by rw [HER.out], HF5.out.2.1, HF5.out.2.2.1, HF5.out.2.2.2.1, HRR.out, HF5.out.2.2.2.2⟩
  · rw [if_neg hc, if_neg hc, if_neg hc]
    have HER : Hid (errV (chk l).2 = .iface 61 (.int .i64 (chk l).2)) := by show _ = _; unfold errV; rw [if_neg hc]
    have HWH := hid_q (whole_bad (.func (.func NS) #[] #[]) (.func (.func NF) BF CF) l v W0 (hI.below hb0 (Nat.le_refl _)) hc)
    obtain ⟨ad, b, off, cap, rfl, -⟩ := hI
    obtain ⟨n, hn⟩ : ∃ n, (chk l).2 = n := ⟨_, rfl⟩
    rw [hn] at HER HWH ⊢
    clear hc hb0 kz kr hsz hS hF cS cF hn hKw
    go_enter Tryz.func26, Tryz.ntmps26
    go_upto_region 1 with (fail)
    rw [← hW0]
    obtain ⟨Z, hZ⟩ : ∃ Z, Z = w.heap.size + 1 := ⟨_, rfl⟩
    rw [← hZ] at HKZ ⊢
    obtain ⟨PR, hPR⟩ : ∃ P, P = w.heap.size := ⟨_, rfl⟩
    rw [← hPR] at r0 r1 ⊢
    have HZZ : Hid (Z < W0.heap.size ∧ w.heap.size ≤ Z) := by have := HSZ.out; exact ⟨by omega, by omega⟩
    clear hW0 hZ hPR
    go_wp2_with fail
    refine HWH.out.mono ?_
    rintro e w5 ⟨rfl, hb1⟩
    have HBW := hid_q hb1
    have hz5 := (HBW.out.block Z HZZ.out.1).trans HKZ.out
    have HF5 := hid_q (fin5 hz5 HZZ.out.2 (HB0.out.trans (HBW.out.mono HB0.out.size)) (u1 := .slice none 0 0) (u2 := .slice none 0 0) (u3 := .slice none 0 0) (isInts_nil _) (isOps_nilQ _) (isInts_nil _))
    have z0 : w5.cell? ⟨Z, 0, none⟩ = some (.slice none 0 0) := by rw [cell_of_row w5 Z _ _ _ _ hz5]; rfl
    have z1 : w5.cell? ⟨Z, 1, none⟩ = some (.slice none 0 0) := by rw [cell_of_row w5 Z _ _ _ _ hz5]; rfl
    have z2 : w5.cell? ⟨Z, 2, none⟩ = some (.slice none 0 0) := by rw [cell_of_row w5 Z _ _ _ _ hz5]; rfl
    have y0 : w5.frozen? ⟨Z, 0, none⟩ = false := by simp [World.frozen?, hz5]
    have y1 : w5.frozen? ⟨Z, 1, none⟩ = false := by simp [World.frozen?, hz5]
    have y2 : w5.frozen? ⟨Z, 2, none⟩ = false := by simp [World.frozen?, hz5]
    clear hb1 hz5 r0 r1
    go_wp2_with fail
    refine bodyPost_ret (v := .tuple #[.agg #[.slice none 0 0, .slice none 0 0, .slice none 0 0], .iface 61 (.int .i64 n)]) (results_twoQ Tryz.results26 _ _ Z 34 #[.slice none 0 0, .slice none 0 0, .slice none 0 0] (0, 0) _ (.iface 61 (.int .i64 n)) rfl rfl HF5.out.1 Tryz.underlying34 rfl outcome_infoQ) rfl ⟨_, _, _, by rw [HER.out], HF5.out.2.1, HF5.out.2.2.1, HF5.out.2.2.2.1, ⟨_, _, _, rfl, Nat.le_refl _⟩, HF5.out.2.2.2.2⟩
theorem call_latest : RuleFn 27 := fun _ _ => by kernel_rfl
theorem call_stale : RuleFn 28 := fun _ _ => by kernel_rfl
theorem outV (l : List Op3) : outU 1 okV false l = ((if (chk l).2 = 0 then (runQ seesV fallV l l.length).done else [], if (chk l).2 = 0 then (runQ seesV fallV l l.length).done.flatMap (runQ seesV fallV l l.length).read else [], if (chk l).2 = 0 then lastsQ (runQ seesV fallV l l.length) 6 else []), (chk l).2) := by
  by_cases hc : (chk l).2 = 0
  · rw [if_pos hc, if_pos hc, if_pos hc, crs_out rulesV hc, hc]; rfl
  · rw [if_neg hc, if_neg hc, if_neg hc, outU_bad hc]
set_option maxHeartbeats 8000000 in
set_option maxRecDepth 100000 in
theorem validC : RunsC 8 1 okV false := by
  intro l v w hI
  rw [outV]
  have HRC : Hid (∀ W, Below w.heap.size w W → _) := fun W hW => run_crs call_latest call_stale seesV_c fallV_c.k l v W (fun _ _ => trivial) (hI.below hW (Nat.le_refl _))
  obtain ⟨A, hA⟩ : ∃ A, (if (chk l).2 = 0 then (runQ seesV fallV l l.length).done else []) = A := ⟨_, rfl⟩
  obtain ⟨B, hB⟩ : ∃ B, (if (chk l).2 = 0 then (runQ seesV fallV l l.length).done.flatMap (runQ seesV fallV l l.length).read else []) = B := ⟨_, rfl⟩
  obtain ⟨C, hC⟩ : ∃ C, (if (chk l).2 = 0 then lastsQ (runQ seesV fallV l l.length) 6 else []) = C := ⟨_, rfl⟩
  obtain ⟨er, her⟩ : ∃ e, errV (chk l).2 = e := ⟨_, rfl⟩
  have HER : Hid (er = .nilIface ∨ ∃ n, er = .iface 61 (.int .i64 n)) := by
    show _ ∨ _
    rw [← her]
    unfold errV
    split
    · exact .inl rfl
    · exact .inr ⟨_, rfl⟩
  rw [hA, hB, hC, her] at HRC
  simp only
  rw [hA, hB, hC, her]
  obtain ⟨ad, b, off, cap, rfl, -⟩ := hI
  obtain ⟨W0, hW0⟩ : ∃ W, W = w.alloc (.cells #[.slice none 0 0, .slice none 0 0, .slice none 0 0] 34) := ⟨_, rfl⟩
  have hb0 : Below w.heap.size w W0 := by rw [hW0]; exact (Below.refl _ w).alloc (Nat.le_refl _) _
  have HB0 := hid_q hb0
  have HCK := hid_q (HRC.out W0 hb0)
  have kz : W0.heap[w.heap.size]? = some (.cells #[.slice none 0 0, .slice none 0 0, .slice none 0 0] 34 (0, 0)) := by rw [hW0]; exact World.alloc_heap_new w _
  have HKZ := hid_q kz
  have hsz : W0.heap.size = w.heap.size + 1 := by rw [hW0]; simp
  have HSZ := hid_q hsz
  clear hA hB hC her HRC hb0 kz hsz
  go_enter Tryz.func8, Tryz.ntmps8
  go_upto_region 1 with (fail)
  rw [← hW0]
  obtain ⟨Z, hZ⟩ : ∃ Z, Z = w.heap.size := ⟨_, rfl⟩
  rw [← hZ] at HKZ ⊢
  have HZZ : Hid (Z < W0.heap.size ∧ w.heap.size ≤ Z) := by have := HSZ.out; exact ⟨by omega, by omega⟩
  clear hW0 hZ
  go_wp2_with fail
  refine HCK.out.mono ?_
  rintro e w5 ⟨a1, a2, a3, rfl, hi1, hi2, hi3, hr, hb5⟩
  have hz5 := (hb5.block Z HZZ.out.1).trans HKZ.out
  have HF5 := hid_q (fin5 hz5 HZZ.out.2 (HB0.out.trans (hb5.mono HB0.out.size)) (u1 := a1) (u2 := a2) (u3 := a3) hi1 hi2 hi3)
  have HRR := hid_q hr
  have z0 : w5.cell? ⟨Z, 0, none⟩ = some (.slice none 0 0) := by rw [cell_of_row w5 Z _ _ _ _ hz5]; rfl
  have z1 : w5.cell? ⟨Z, 1, none⟩ = some (.slice none 0 0) := by rw [cell_of_row w5 Z _ _ _ _ hz5]; rfl
  have z2 : w5.cell? ⟨Z, 2, none⟩ = some (.slice none 0 0) := by rw [cell_of_row w5 Z _ _ _ _ hz5]; rfl
  have y0 : w5.frozen? ⟨Z, 0, none⟩ = false := by simp [World.frozen?, hz5]
  have y1 : w5.frozen? ⟨Z, 1, none⟩ = false := by simp [World.frozen?, hz5]
  have y2 : w5.frozen? ⟨Z, 2, none⟩ = false := by simp [World.frozen?, hz5]
  obtain ⟨d1, n1, p1, x1⟩ : ∃ d n p, a1 = .slice d n p := by obtain ⟨a, _, _, c, h, _⟩ := hi1; exact ⟨a, _, c, h⟩
  obtain ⟨d2, n2, p2, x2⟩ : ∃ d n p, a2 = .slice d n p := by obtain ⟨a, _, _, c, h, _⟩ := hi2; exact ⟨a, _, c, h⟩
  obtain ⟨d3, n3, p3, x3⟩ : ∃ d n p, a3 = .slice d n p := by obtain ⟨a, _, _, c, h, _⟩ := hi3; exact ⟨a, _, c, h⟩
  subst x1 x2 x3
  clear hi1 hi2 hi3 hr hb5 hz5
  rcases HER.out with rfl | ⟨ne, rfl⟩
  · go_wp2_with fail
    exact bodyPost_ret (v := .tuple #[.agg #[.slice d1 n1 p1, .slice d2 n2 p2, .slice d3 n3 p3], .nilIface]) (results_twoQ Tryz.results8 _ _ Z 34 #[.slice d1 n1 p1, .slice d2 n2 p2, .slice d3 n3 p3] (0, 0) _ .nilIface rfl rfl HF5.out.1 Tryz.underlying34 rfl outcome_infoQ) rfl ⟨_, _, _, rfl, HF5.out.2.1, HF5.out.2.2.1, HF5.out.2.2.2.1, HRR.out, HF5.out.2.2.2.2⟩
  · go_wp2_with fail
    exact bodyPost_ret (v := .tuple #[.agg #[.slice d1 n1 p1, .slice d2 n2 p2, .slice d3 n3 p3], .iface 61 (.int .i64 ne)]) (results_twoQ Tryz.results8 _ _ Z 34 #[.slice d1 n1 p1, .slice d2 n2 p2, .slice d3 n3 p3] (0, 0) _ (.iface 61 (.int .i64 ne)) rfl rfl HF5.out.1 Tryz.underlying34 rfl outcome_infoQ) rfl ⟨_, _, _, rfl, HF5.out.2.1, HF5.out.2.2.1, HF5.out.2.2.2.1, HRR.out, HF5.out.2.2.2.2⟩
end Go.Proofs.YtccjognnehoodahGreat

namespace Go.Proofs.YtccjognnehoodahGreat

/-- Of those that ran at once: did one read what another one wrote? -/
def antiB (t : Int) (a b : Dl) : Bool := onceK a b && b.wrote.any fun item => readK t a item
def outAnti (of : Int → Dl) (ds : List Int) (t : Int) : Bool := ds.any fun u => u != t && antiB t (of t) (of u)
def intoAnti (of : Int → Dl) (ds : List Int) (t : Int) : Bool := ds.any fun u => u != t && antiB u (of u) (of t)
/-- Is one between? -/
def pivL (of : Int → Dl) (ds : List Int) : Bool := ds.any fun t => intoAnti of ds t && outAnti of ds t
def okBtw (s : Kst) (t : Int) (r : Dl) : Bool := !hitK 3 s t r && !pivL (setF s.of t r) (s.done ++ [t])
theorem okBtw_hit (s : Kst) (t : Int) (r : Dl) (h : okBtw s t r = true) : hitK 3 s t r = false := by unfold okBtw at h; simp at h; exact h.1

/-- The last of a kind by a measure, or 0. -/
def IsBy (f : Int → Int) (P : Int → Prop) (r : Int) : Prop := (r = 0 ∧ ∀ u, ¬ P u) ∨ (P r ∧ ∀ u, P u → f u ≤ f r)
theorem by_uniq {f : Int → Int} {P : Int → Prop} (hinj : ∀ u v, P u → P v → f u = f v → u = v) {r s : Int} (hr : IsBy f P r) (hs : IsBy f P s) : r = s := by
  rcases hr with ⟨e1, e2⟩ | ⟨e1, e2⟩
  · rcases hs with ⟨d1, _⟩ | ⟨d1, _⟩
    · omega
    · exact absurd d1 (e2 _)
  · rcases hs with ⟨_, d2⟩ | ⟨d1, d2⟩
    · exact absurd e1 (d2 _)
    · refine hinj _ _ e1 d1 ?_
      have := e2 _ d1
      have := d2 _ e1
      omega
theorem foldl_by (b : Int → Bool) (f : Int → Int) {ds : List Int} (hd : ds.Pairwise fun x y => f x < f y) : IsBy f (fun u => u ∈ ds ∧ b u = true) (ds.foldl (fun r t => if b t = true then t else r) 0) := by
  suffices H : ∀ (d : List Int) (r0 : Int), d.Pairwise (fun x y => f x < f y) → let r := d.foldl (fun r t => if b t = true then t else r) r0; (r = r0 ∧ ∀ u ∈ d, b u = false) ∨ (r ∈ d ∧ b r = true ∧ ∀ u ∈ d, b u = true → f u ≤ f r) from by
    rcases H ds 0 hd with ⟨h1, h2⟩ | ⟨h1, h2, h3⟩
    · exact Or.inl ⟨h1, fun u hu => by have h3 := hu.2; rw [h2 u hu.1] at h3; cases h3⟩
    · exact Or.inr ⟨⟨h1, h2⟩, fun u hu => h3 u hu.1 hu.2⟩
  intro d
  induction d with
  | nil => exact fun r0 _ => Or.inl ⟨rfl, fun u hu => (by cases hu)⟩
  | cons a d ih =>
    intro r0 hd
    obtain ⟨k1, k2⟩ := List.pairwise_cons.1 hd
    dsimp only
    rw [List.foldl_cons]
    rcases ih (if b a = true then a else r0) k2 with ⟨h1, h2⟩ | ⟨h1, h2, h3⟩
    · rw [h1]
      by_cases hb : b a = true
      · rw [if_pos hb]
        refine Or.inr ⟨List.mem_cons_self .., hb, fun u hu hub => ?_⟩
        rcases List.mem_cons.1 hu with e | hu
        · rw [e]; exact Int.le_refl _
        · rw [h2 u hu] at hub; cases hub
      · rw [if_neg hb]
        refine Or.inl ⟨rfl, fun u hu => ?_⟩
        rcases List.mem_cons.1 hu with e | hu
        · rw [e]; simpa using hb
        · exact h2 u hu
    · refine Or.inr ⟨List.mem_cons_of_mem _ h1, h2, fun u hu hub => ?_⟩
      rcases List.mem_cons.1 hu with e | hu
      · rw [e]; exact Int.le_of_lt (k1 _ h1)
      · exact h3 u hu hub
theorem who_by (ds : List Int) (of : Int → Dl) (item time : Int) : whoK ds of item time 0 = ds.foldl (fun r t => if (inB (of t).wrote item && decide ((of t).ended < time)) = true then t else r) 0 := by
  unfold whoK
  refine foldl_congr' _ _ fun b x _ => ?_
  by_cases h : (of x).ended < time
  · have e : decide (time ≤ (of x).ended) = false := by simp; omega
    rw [e, decide_eq_true h, Bool.or_false, Bool.and_true]
    cases inB (of x).wrote item <;> simp
  · have e : decide (time ≤ (of x).ended) = true := by simp; omega
    have e2 : decide ((of x).ended < time) = false := by simp; omega
    rw [e, e2, Bool.or_true, Bool.and_false]
    simp
/-- Any few can be sorted. -/
theorem sort_by (f : Int → Int) : ∀ ds : List Int, (∀ i ∈ ds, ∀ j ∈ ds, f i = f j → i = j) → ∃ o : List Int, o.Pairwise (fun x y => f x < f y) ∧ ∀ x, x ∈ o ↔ x ∈ ds := by
  intro ds
  induction ds with
  | nil => exact fun _ => ⟨[], List.Pairwise.nil, fun _ => Iff.rfl⟩
  | cons a ds ih =>
    intro hinj
    obtain ⟨o, h1, h2⟩ := ih fun i hi j hj => hinj i (List.mem_cons_of_mem _ hi) j (List.mem_cons_of_mem _ hj)
    by_cases ha : a ∈ ds
    · exact ⟨o, h1, fun x => by rw [h2 x, List.mem_cons]; exact ⟨Or.inr, fun hh => hh.elim (fun e => e ▸ ha) id⟩⟩
    · refine ⟨o.filter (fun x => decide (f x < f a)) ++ a :: o.filter (fun x => decide (f a < f x)), ?_, fun x => ?_⟩
      · refine List.pairwise_append.2 ⟨h1.sublist (List.filter_sublist ..), List.pairwise_cons.2 ⟨fun y hy => ?_, h1.sublist (List.filter_sublist ..)⟩, fun x hx y hy => ?_⟩
        · simpa using (List.mem_filter.1 hy).2
        · have hxa : f x < f a := by simpa using (List.mem_filter.1 hx).2
          rcases List.mem_cons.1 hy with e | hy
          · rw [e]; exact hxa
          · have hay : f a < f y := by simpa using (List.mem_filter.1 hy).2
            omega
      · rw [List.mem_append, List.mem_cons, List.mem_filter, List.mem_filter, List.mem_cons, h2 x]
        constructor
        · rintro (hh | hh | hh)
          · exact Or.inr hh.1
          · exact Or.inl hh
          · exact Or.inr hh.1
        · rintro (hh | hh)
          · exact Or.inr (Or.inl hh)
          · have hne : f x ≠ f a := fun e => ha (by rw [← hinj x (List.mem_cons_of_mem _ hh) a (List.mem_cons_self ..) e]; exact hh)
            rcases Int.lt_or_gt_of_ne hne with hlt | hlt
            · exact Or.inl ⟨hh, decide_eq_true hlt⟩
            · exact Or.inr (Or.inr ⟨hh, decide_eq_true hlt⟩)
/-- By what those that are done are ordered: from whom an edge leads, as it began; else as it ended. -/
def keyK (s : Kst) (t : Int) : Int := if outAnti s.of s.done t = true then (s.of t).began else (s.of t).ended
section
variable {l : List Op3} {k : Nat} {s : Kst}
theorem key_in (hS : SOkK l s) {t : Int} (ht : t ∈ s.done) : (s.of t).began ≤ keyK s t ∧ keyK s t ≤ (s.of t).ended := by
  have := hS.life t ht
  unfold keyK
  split <;> omega
theorem key_place (hK : KOk l k s) (hS : SOkK l s) {t : Int} (ht : t ∈ s.done) : (opAt l (keyK s t).toNat).1 = t := by
  unfold keyK
  split
  · exact hS.place t (hK.comm t ht).1
  · rw [(hK.comm t ht).2.2.2.2.2]
theorem key_inj (hK : KOk l k s) (hS : SOkK l s) {i j : Int} (hi : i ∈ s.done) (hj : j ∈ s.done) (h : keyK s i = keyK s j) : i = j := by
  rw [← key_place hK hS hi, h, key_place hK hS hj]
theorem ended_inj (hK : KOk l k s) {i j : Int} (hi : i ∈ s.done) (hj : j ∈ s.done) (h : (s.of i).ended = (s.of j).ended) : i = j := by
  have a1 := (hK.comm i hi).2.2.2.2.2
  rw [h, (hK.comm j hj).2.2.2.2.2] at a1
  exact (congrArg Prod.fst a1).symm
theorem meet_ne (hK : KOk l k s) (hS : SOkK l s) {i j : Int} (hi : i ∈ s.done) (hj : j ∈ s.done) (hij : i ≠ j) : (s.of i).ended ≠ (s.of j).began := fun e => hij (by
  have a1 := (hK.comm i hi).2.2.2.2.2
  have a2 := hS.place j (hK.comm j hj).1
  rw [← e, a1] at a2
  exact a2)
theorem key_prec (hS : SOkK l s) {i j : Int} (hi : i ∈ s.done) (hj : j ∈ s.done) (h : (s.of i).ended < (s.of j).began) : keyK s i < keyK s j := by
  have := key_in hS hi
  have := key_in hS hj
  omega
theorem key_anti (hK : KOk l k s) (hp : pivL s.of s.done = false) {i j : Int} (hi : i ∈ s.done) (hj : j ∈ s.done) (hij : i ≠ j) (h : antiB i (s.of i) (s.of j) = true) : keyK s i < keyK s j := by
  have ho : outAnti s.of s.done i = true := List.any_eq_true.2 ⟨j, hj, by rw [h, Bool.and_true]; simpa using fun e => hij e.symm⟩
  have hin : intoAnti s.of s.done j = true := List.any_eq_true.2 ⟨i, hi, by rw [h, Bool.and_true]; simpa using hij⟩
  have hno : outAnti s.of s.done j = false := by
    cases hx : outAnti s.of s.done j with
    | false => rfl
    | true =>
      have : pivL s.of s.done = true := List.any_eq_true.2 ⟨j, hj, by rw [hin, hx]; rfl⟩
      rw [this] at hp
      cases hp
  unfold keyK
  rw [if_pos ho, hno, if_neg (by decide)]
  have h0 := (hK.comm j hj).2.2.2.1
  unfold antiB onceK at h
  simp at h
  omega
theorem key_wrote (hK : KOk l k s) (hS : SOkK l s) {u v : Int} (hu : u ∈ s.done) (hv : v ∈ s.done) {item : Int} (h1 : inB (s.of u).wrote item = true) (h2 : inB (s.of v).wrote item = true) (h : (s.of u).ended < (s.of v).ended) : keyK s u < keyK s v := by
  have h3 := hS.excl u hu v hv h item h1 h2
  have h4 := meet_ne hK hS hu hv fun e => by rw [e] at h; omega
  exact key_prec hS hu hv (by omega)
/-- Who wrote an item last is so by both measures. -/
theorem by_turn (hK : KOk l k s) (hS : SOkK l s) {P : Int → Prop} {item r : Int} (hP : ∀ u, P u → u ∈ s.done ∧ inB (s.of u).wrote item = true) (h : IsBy (keyK s) P r) : IsBy (fun u => (s.of u).ended) P r := by
  rcases h with h | ⟨h1, h2⟩
  · exact Or.inl h
  · refine Or.inr ⟨h1, fun u hu => ?_⟩
    show (s.of u).ended ≤ (s.of r).ended
    by_cases hlt : (s.of r).ended < (s.of u).ended
    · have := key_wrote hK hS (hP r h1).1 (hP u hu).1 (hP r h1).2 (hP u hu).2 hlt
      have := h2 u hu
      omega
    · omega
/-- Whose write a read sees comes ahead, and no other one does. -/
theorem key_saw (hK : KOk l k s) (hS : SOkK l s) (hp : pivL s.of s.done = false) {t u : Int} (ht : t ∈ s.done) (hu : u ∈ s.done) {e : Op3} (he : e ∈ (s.of t).seen) (hne : e.2.2 ≠ t) (hw : inB (s.of u).wrote e.2.1 = true) (hut : u ≠ t) : keyK s u < keyK s t ↔ (s.of u).ended < (s.of t).began := by
  refine ⟨fun h => ?_, key_prec hS hu ht⟩
  have m1 := meet_ne hK hS hu ht hut
  have m2 := meet_ne hK hS ht hu fun e => hut e.symm
  by_cases c1 : (s.of u).ended < (s.of t).began
  · exact c1
  · exfalso
    by_cases c2 : (s.of t).ended < (s.of u).began
    · have := key_prec hS ht hu c2
      omega
    · have : antiB t (s.of t) (s.of u) = true := by
        unfold antiB onceK
        rw [Bool.and_eq_true, Bool.and_eq_true, Bool.or_eq_true, Bool.or_eq_true, List.any_eq_true]
        refine ⟨⟨Or.inr (decide_eq_true (by omega)), Or.inr (decide_eq_true (by omega))⟩, e.2.1, by simpa [inB] using hw, ?_⟩
        unfold readK
        rw [List.any_eq_true]
        exact ⟨e, he, by simp [hne]⟩
      have := key_anti hK hp ht hu (fun e => hut e.symm) this
      omega
/-- NOBODY BETWEEN, AS IF ONE BEHIND THE OTHER. -/
theorem fekete (hK : KOk l k s) (hS : SOkK l s) (hp : pivL s.of s.done = false) : ∃ o : List Int, o.Nodup ∧ (∀ x, x ∈ o ↔ x ∈ s.done) ∧
    (∀ p t q, o = p ++ t :: q → ((s.of t).seen, (s.of t).wrote) = expK t (lastK s.of p) (ofL (l.take k) t)) ∧ ∀ item, lastK s.of o item = lastK s.of s.done item := by
  obtain ⟨o, h1, h2⟩ := sort_by (keyK s) s.done fun i hi j hj => key_inj hK hS hi hj
  refine ⟨o, h1.imp fun {a b} hab e => (by rw [e] at hab; omega), h2, fun p t q ho => ?_, fun item => ?_⟩
  · have ht : t ∈ s.done := (h2 t).1 (by rw [ho]; simp)
    rw [ho] at h1
    obtain ⟨r1, r2, r3⟩ := List.pairwise_append.1 h1
    have hpm : ∀ u, u ∈ p ↔ (u ∈ s.done ∧ keyK s u < keyK s t) := fun u => by
      constructor
      · exact fun hu => ⟨(h2 u).1 (by rw [ho]; exact List.mem_append_left _ hu), r3 u hu t (List.mem_cons_self ..)⟩
      · rintro ⟨hu, hlt⟩
        have hm := (h2 u).2 hu
        rw [ho] at hm
        rcases List.mem_append.1 hm with hm | hm
        · exact hm
        · rcases List.mem_cons.1 hm with e | hm
          · rw [e] at hlt; omega
          · have := (List.pairwise_cons.1 r2).1 u hm
            omega
    refine hK.sees t (hK.comm t ht).1 _ fun e he hne => ?_
    rw [hS.read t (hK.comm t ht).1 e he hne, who_by]
    have A := foldl_by (fun u => inB (s.of u).wrote e.2.1 && decide ((s.of u).ended < (s.of t).began)) (fun u => (s.of u).ended) hS.rise
    have B := foldl_by (fun u => inB (s.of u).wrote e.2.1) (keyK s) r1
    have B' := by_turn hK hS (item := e.2.1) (fun u hu => ⟨((hpm u).1 hu.1).1, hu.2⟩) B
    have hPQ : (fun u => u ∈ p ∧ inB (s.of u).wrote e.2.1 = true) = (fun u => u ∈ s.done ∧ (inB (s.of u).wrote e.2.1 && decide ((s.of u).ended < (s.of t).began)) = true) := funext fun u => propext (by
      rw [hpm u, Bool.and_eq_true, decide_eq_true_eq]
      constructor
      · rintro ⟨⟨a1, a2⟩, a3⟩
        exact ⟨a1, a3, (key_saw hK hS hp ht a1 he hne a3 (fun e => by rw [e] at a2; omega)).1 a2⟩
      · rintro ⟨a1, a2, a3⟩
        have := key_prec hS a1 ht a3
        exact ⟨⟨a1, this⟩, a2⟩)
    rw [hPQ] at B'
    exact by_uniq (fun u v hu hv => ended_inj hK hu.1 hv.1) A B'
  · have A := foldl_by (fun u => inB (s.of u).wrote item) (fun u => (s.of u).ended) hS.rise
    have B := by_turn hK hS (item := item) (fun u hu => ⟨(h2 u).1 hu.1, hu.2⟩) (foldl_by (fun u => inB (s.of u).wrote item) (keyK s) h1)
    have hPQ : (fun u => u ∈ o ∧ inB (s.of u).wrote item = true) = (fun u => u ∈ s.done ∧ inB (s.of u).wrote item = true) := funext fun u => propext (by rw [h2 u])
    rw [hPQ] at B
    exact by_uniq (fun u v hu hv => ended_inj hK hu.1 hv.1) B A
end
end Go.Proofs.YtccjognnehoodahGreat
