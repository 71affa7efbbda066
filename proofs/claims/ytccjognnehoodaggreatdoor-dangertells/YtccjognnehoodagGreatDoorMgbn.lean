/-
  PROVED HERE: package course: Whole and Run, by any two rules, go over ops as chapters 11 to 14 have it for such rules; package valid keeps what it is asked (RunsC). Old memory stays as it was.
  Conditions: what the rules answer is a premise of the first.
  PROVED HERE: plain facts, with no word of the program: the rising list of all deals that edges name; the least of those that could be next, looked for along that list, is the program's next.
  Conditions: none.
-/
import Derived.Test.YtccjognnehoodagGreatDoorMgbm
import Derived.Test.YtccjognnehoodagGreatDoorMgah
import Derived.Test.YtccjognnehoodagGreatDoorMgak
namespace Go.Proofs.YtccjognnehoodagGreatDoor
open Go.RowKit

set_option maxHeartbeats 4000000 in
set_option maxRecDepth 100000 in
theorem newCourse_crs (S F : Value) (hS : ∃ N, S = .func (.func N) #[] #[]) (hF : ∃ N B C, F = .func (.func N) B C) (w0 w : World) (hb : Below w0.heap.size w0 w) :
    Calls Tryz.prog 40 #[.agg #[S, F]] w fun e w' => ∃ R, e = .returned (.pointer (some ⟨R, 0, none⟩)) ∧ ∃ c, CrsAt w0 w' R S F crs0 c := by
  obtain ⟨N1, rfl⟩ := hS
  obtain ⟨N2, B2, C2, rfl⟩ := hF
  have hmm := @run_makeMap Tryz.prog
  have HM := hid_q (crs_made w0 (w.alloc (.cells #[.func (.func N1) #[] #[], .func (.func N2) B2 C2] 69)) (hb.alloc hb.size _) (.func (.func N1) #[] #[]) (.func (.func N2) B2 C2))
  simp only [World.size_alloc] at HM
  clear hb
  go_enter Tryz.func40, Tryz.ntmps40
  go_wp2_with fail
  go_ret
  exact ⟨_, rfl, _, HM.out⟩
theorem isOps_nilQ (w : World) : IsOps w (.slice none 0 0) [] := ⟨none, 0, 0, 0, rfl, fun h => absurd h (by simp), fun _ => ⟨rfl, rfl⟩, .inr rfl, fun i hi => by simp at hi⟩
theorem results_twoQ {P : Program} {fn : Func} {p q : Tmp} {ty : TypeId} (h : fn.results = #[.cell p ty, .tmp q]) (tmps : Array Value) (w : World) (g : Nat) (t : TypeId) (cs : Array Value) (fr : Nat × Nat) (d : TypeDesc) (v : Value)
    (hp : tmps.getD p undef = .pointer (some ⟨g, 0, none⟩)) (hq : tmps.getD q undef = v) (hg : w.heap[g]? = some (.cells cs t fr))
    (hu : P.underlying ty = some d) (hd : (match d with | .struct _ | .array _ _ => true | _ => false) = true) (hi : (P.info? ty).map (·.size) = some cs.size) :
    (results fn tmps).run P w = .ok (.tuple #[.agg cs, v]) w := by
  have hp' : tmps[p]?.getD undef = .pointer (some ⟨g, 0, none⟩) := by simpa using hp
  have hq' : tmps[q]?.getD undef = v := by simpa using hq
  simp [results, h, hp', hq', asAddr, run_loadVar_row w g t ty cs fr d hg hu hd hi]
/-- What comes of one op. -/
theorem come_any {K : World → Prop} {NS NF : Nat} {BF CF : Array Value} {seesF : Crs → Int → Int → Int} {fallF : Crs → Int → Bool} (cS : RuleFn NS) (cF : RuleFn NF) (hS : SeesC NS seesF) (hF : FallK K NF BF CF fallF) {w0 w : World} (hK0 : K w0) {R : Nat} {q : Crs} {c : CLay} (h : CrsAt w0 w R (.func (.func NS) #[] #[]) (.func (.func NF) BF CF) q c) (hq : CrsOk 999 q) (o : Op3) (h1 : 1 ≤ o.1) (h6 : o.1 ≤ 6) :
    Calls Tryz.prog 41 #[.pointer (some ⟨R, 0, none⟩), .agg #[.int .i64 o.1, .int .i64 o.2.1, .int .i64 o.2.2]] w fun e w' => e = .returned (.tuple #[]) ∧ CameTo w0 w' R (.func (.func NS) #[] #[]) (.func (.func NF) BF CF) (stepQ seesF fallF q o) := by
  obtain ⟨t, a, i⟩ := o
  simp only at h1 h6
  unfold stepQ
  simp only
  by_cases e1 : a = 1
  · subst e1
    rw [if_pos rfl]
    exact come_read cS hS h hq i h1 h6
  · rw [if_neg e1]
    by_cases e2 : a = 2
    · subst e2
      rw [if_pos rfl]
      exact come_write h hq i h1 h6
    · rw [if_neg e2]
      by_cases e3 : a = 3
      · subst e3
        rw [if_pos rfl]
        exact come_commit cF hF hK0 h hq i h1 h6
      · rw [if_neg e3]
        exact come_abort h a i h1 h6 e1 e2 e3
theorem CrsOk.up {m n : Nat} {q : Crs} (h : CrsOk m q) (hm : m ≤ n) : CrsOk n q := ⟨Nat.le_trans h.lenD hm, fun t => Nat.le_trans (h.lenR t) hm, fun t => Nat.le_trans (h.lenW t) hm, h.six, h.cnt, h.begs⟩
set_option maxHeartbeats 16000000 in
set_option maxRecDepth 100000 in
theorem whole_ok {K : World → Prop} {NS NF : Nat} {BF CF : Array Value} {seesF : Crs → Int → Int → Int} {fallF : Crs → Int → Bool} (cS : RuleFn NS) (cF : RuleFn NF) (hS : SeesC NS seesF) (hF : FallK K NF BF CF fallF) (l : List Op3) (v : Value) (w : World) (hKw : ∀ W, Below w.heap.size w W → K W) (hI : IsOps w v l) (hc : (chk l).2 = 0) :
    Calls Tryz.prog 23 #[v, .agg #[.func (.func NS) #[] #[], .func (.func NF) BF CF]] w fun e w' => ∃ W0 R, e = .returned (.tuple #[.pointer (some ⟨R, 0, none⟩), .nilIface]) ∧ Below w.heap.size w W0 ∧ CameTo W0 w' R (.func (.func NS) #[] #[]) (.func (.func NF) BF CF) (runQ seesF fallF l l.length) := by
  obtain ⟨W0, hW0⟩ : ∃ W, W = w.alloc (.cells #[.func (.func NS) #[] #[], .func (.func NF) BF CF] 69) := ⟨_, rfl⟩
  have hb0 : Below w.heap.size w W0 := by rw [hW0]; exact (Below.refl _ w).alloc (Nat.le_refl _) _
  have HB0 := hid_q hb0
  have HKK := hid_q (hKw W0 hb0)
  have HCK := hid_q (check_ok l v W0 (hI.below hb0 (Nat.le_refl _)) hc)
  obtain ⟨hl40, hop, hcalm⟩ := (chk_iff l).1 hc
  have HOP : Hid (∀ o ∈ l, isOpB o = true) := hop
  have HOK : Hid (∀ k, k ≤ l.length → CrsOk 40 (runQ seesF fallF l k)) := fun k hk => (crsOk_all seesF fallF hop k hk).up (by omega)
  obtain ⟨ad, b, off, cap, rfl, ha, -, hbB, hops⟩ := hI
  have HE : Hid (∀ W, Below w.heap.size w W → ∀ k, k < l.length → ad = some ⟨b, off, none⟩ ∧ b < w.heap.size ∧ W.cell? ⟨b, off + k * 3, none⟩ = some (.int .i64 (opAt l k).1) ∧ W.cell? ⟨b, off + k * 3 + 1, none⟩ = some (.int .i64 (opAt l k).2.1) ∧ W.cell? ⟨b, off + k * 3 + 2, none⟩ = some (.int .i64 (opAt l k).2.2)) := fun W hW k hk => by
    refine ⟨ha (by omega), ?_, (hops.below hW hbB) k hk⟩
    rcases hbB with h | h
    · exact h
    · subst h; simp at hk
  have HCA : Hid (∀ (w w' : World) (R : Nat) (q : Crs) (c : CLay) (o : Op3), K w → CrsAt w w' R (.func (.func NS) #[] #[]) (.func (.func NF) BF CF) q c → CrsOk 40 q → 1 ≤ o.1 → o.1 ≤ 6 → Calls Tryz.prog 41 #[.pointer (some ⟨R, 0, none⟩), .agg #[.int .i64 o.1, .int .i64 o.2.1, .int .i64 o.2.2]] w' fun e w2 => e = .returned (.tuple #[]) ∧ CameTo w w2 R (.func (.func NS) #[] #[]) (.func (.func NF) BF CF) (stepQ seesF fallF q o)) := fun w w' R q c o hk h hq h1 h6 => come_any cS cF hS hF hk h (hq.up (by omega)) o h1 h6
  have kr : W0.heap[w.heap.size]? = some (.cells #[.func (.func NS) #[] #[], .func (.func NF) BF CF] 69 (0, 0)) := by rw [hW0]; exact World.alloc_heap_new w _
  have hsz : W0.heap.size = w.heap.size + 1 := by rw [hW0]; simp
  have HKR := hid_q kr
  have HSZ := hid_q hsz
  clear hc hop hcalm ha hbB hops hb0 kr hsz hS hF cS cF hKw
  go_enter Tryz.func23, Tryz.ntmps23
  go_upto_region 1 with (fail)
  rw [← hW0]
  obtain ⟨PR, hPR⟩ : ∃ P, P = w.heap.size := ⟨_, rfl⟩
  rw [← hPR] at HKR ⊢
  have HZZ : Hid (PR < W0.heap.size) := by have := HSZ.out; show PR < _; omega
  clear hW0 hPR
  go_wp2_with fail
  refine HCK.out.mono ?_
  rintro e w1 ⟨rfl, hb1⟩
  have HB1 := hid_q hb1
  have r0 : w1.cell? ⟨PR, 0, none⟩ = some (.func (.func NS) #[] #[]) := by rw [cell_of_row w1 PR _ _ _ _ ((hb1.block PR HZZ.out).trans HKR.out)]; rfl
  have r1 : w1.cell? ⟨PR, 1, none⟩ = some (.func (.func NF) BF CF) := by rw [cell_of_row w1 PR _ _ _ _ ((hb1.block PR HZZ.out).trans HKR.out)]; rfl
  clear hb1
  go_wp2_with fail
  refine (newCourse_crs (.func (.func NS) #[] #[]) (.func (.func NF) BF CF) ⟨_, rfl⟩ ⟨_, _, _, rfl⟩ W0 w1 HB1.out).mono ?_
  rintro e w2 ⟨R, rfl, c2, ho2⟩
  have HO2 := hid_q ho2
  clear ho2 r0 r1
  go_wp2_with fail
  go_loopw [23] (fun v23 wr => ∃ k : Nat, k ≤ l.length ∧ v23 = .int .i64 k ∧ CameTo W0 wr R (.func (.func NS) #[] #[]) (.func (.func NF) BF CF) (runQ seesF fallF l k)) (fun v23 _ => l.length - (intOf v23).toNat)
  case atStart => exact ⟨0, Nat.zero_le _, rfl, c2, HO2.out⟩
  case round =>
    obtain ⟨k, hk, rfl, ck, hok⟩ := hrel
    have HK := hid_q hok
    clear hok HO2
    by_cases hlt : k < l.length
    · have hlt' : (k : Int) < (l.length : Int) := by omega
      have HBW : Hid (Below w.heap.size w wr) := HB0.out.trans (HK.out.old.mono HB0.out.size)
      obtain ⟨rfl, hbw, e0, e1, e2⟩ := HE.out wr HBW.out k hlt
      obtain ⟨⟨t, a, i⟩, ho⟩ : ∃ o : Op3, opAt l k = o := ⟨_, rfl⟩
      have hiso : isOpB (t, a, i) = true := by rw [← ho]; exact HOP.out _ (opAt_mem hlt)
      have h16 := isOp_range hiso
      have HNX : Hid (runQ seesF fallF l (k + 1) = stepQ seesF fallF (runQ seesF fallF l k) (t, a, i)) := by show _ = _; rw [runQ, ho]
      rw [ho] at e0 e1 e2
      simp only at e0 e1 e2
      have hbR : b < wr.heap.size := Nat.lt_of_lt_of_le hbw HBW.out.size
      have HCO : Hid (∀ W, Below wr.heap.size wr W → Calls Tryz.prog 41 #[.pointer (some ⟨R, 0, none⟩), .agg #[.int .i64 t, .int .i64 a, .int .i64 i]] W fun e w' => e = .returned (.tuple #[]) ∧ CameTo W0 w' R (.func (.func NS) #[] #[]) (.func (.func NF) BF CF) (stepQ seesF fallF (runQ seesF fallF l k) (t, a, i))) := fun W hW =>
        HCA.out W0 W R _ ck (t, a, i) HKK.out (HK.out.below hW) (HOK.out k hk) h16.1 h16.2
      clear ho hiso h16
      go_wp2_with fail
      refine (HCO.out _ ((Below.refl _ wr).alloc (Nat.le_refl _) _)).mono ?_
      rintro e w3 ⟨rfl, ho3⟩
      have HO3 := hid_q ho3
      clear ho3 e0 e1 e2
      go_wp2_with fail
      go_roundw
      case rel => exact ⟨k + 1, by omega, by go_num, by rw [HNX.out]; exact HO3.out⟩
      case measure => simp [intOf]; omega
    · have hlt' : ¬ (k : Int) < (l.length : Int) := by omega
      obtain rfl : k = l.length := by omega
      clear hk hlt
      go_wp2_with fail
      go_ret2
      exact ⟨W0, R, rfl, HB0.out, ck, HK.out⟩
set_option maxHeartbeats 16000000 in
set_option maxRecDepth 100000 in
theorem whole_bad (S F : Value) (l : List Op3) (v : Value) (w : World) (hI : IsOps w v l) (hc : (chk l).2 ≠ 0) :
    Calls Tryz.prog 23 #[v, .agg #[S, F]] w fun e w' => e = .returned (.tuple #[.pointer none, .iface 73 (.int .i64 (chk l).2)]) ∧ Below w.heap.size w w' := by
  obtain ⟨W0, hW0⟩ : ∃ W, W = w.alloc (.cells #[S, F] 69) := ⟨_, rfl⟩
  have hb0 : Below w.heap.size w W0 := by rw [hW0]; exact (Below.refl _ w).alloc (Nat.le_refl _) _
  have HB0 := hid_q hb0
  have HCK := hid_q (check_bad l v W0 (hI.below hb0 (Nat.le_refl _)) hc)
  obtain ⟨ad, b, off, cap, rfl, -⟩ := hI
  obtain ⟨n, hn⟩ : ∃ n, (chk l).2 = n := ⟨_, rfl⟩
  rw [hn] at HCK ⊢
  clear hc hb0 hn
  go_enter Tryz.func23, Tryz.ntmps23
  go_upto_region 1 with (fail)
  rw [← hW0]
  clear hW0
  go_wp2_with fail
  refine HCK.out.mono ?_
  rintro e w5 ⟨rfl, hb1⟩
  have HBW := hid_q hb1
  clear hb1
  go_wp2_with fail
  go_ret2
  exact ⟨rfl, HB0.out.trans (HBW.out.mono HB0.out.size)⟩
set_option maxHeartbeats 16000000 in
set_option maxRecDepth 100000 in
theorem run_crs {K : World → Prop} {NS NF : Nat} {BF CF : Array Value} {seesF : Crs → Int → Int → Int} {fallF : Crs → Int → Bool} (cS : RuleFn NS) (cF : RuleFn NF) (hS : SeesC NS seesF) (hF : FallK K NF BF CF fallF) (l : List Op3) (v : Value) (w : World) (hKw : ∀ W, Below w.heap.size w W → K W) (hI : IsOps w v l) :
    Calls Tryz.prog 29 #[v, .agg #[.func (.func NS) #[] #[], .func (.func NF) BF CF]] w fun e w' => ∃ a1 a2 a3, e = .returned (.tuple #[.agg #[a1, a2, a3], errV (chk l).2]) ∧
      IsInts w' a1 (if (chk l).2 = 0 then (runQ seesF fallF l l.length).done else []) ∧ IsOps w' a2 (if (chk l).2 = 0 then (runQ seesF fallF l l.length).done.flatMap (runQ seesF fallF l l.length).read else []) ∧ IsInts w' a3 (if (chk l).2 = 0 then lastsQ (runQ seesF fallF l l.length) 6 else []) ∧ Room a1 ∧ Below w.heap.size w w' := by
  obtain ⟨W0, hW0⟩ : ∃ W, W = (w.alloc (.cells #[.func (.func NS) #[] #[], .func (.func NF) BF CF] 69)).alloc (.cells #[.slice none 0 0, .slice none 0 0, .slice none 0 0] 41) := ⟨_, rfl⟩
  have hb0 : Below w.heap.size w W0 := by rw [hW0]; exact ((Below.refl _ w).alloc (Nat.le_refl _) _).alloc (by simp) _
  have HB0 := hid_q hb0
  have kz : W0.heap[w.heap.size + 1]? = some (.cells #[.slice none 0 0, .slice none 0 0, .slice none 0 0] 41 (0, 0)) := by rw [hW0]; have := World.alloc_heap_new (w.alloc (.cells #[.func (.func NS) #[] #[], .func (.func NF) BF CF] 69)) (.cells #[.slice none 0 0, .slice none 0 0, .slice none 0 0] 41); rwa [World.size_alloc] at this
  have kr : W0.heap[w.heap.size]? = some (.cells #[.func (.func NS) #[] #[], .func (.func NF) BF CF] 69 (0, 0)) := by rw [hW0]; exact (Below.heap_alloc _ _ _ (by simp)).trans (World.alloc_heap_new w _)
  have hsz : W0.heap.size = w.heap.size + 2 := by rw [hW0]; simp
  have HKZ := hid_q kz
  have HSZ := hid_q hsz
  have r0 : W0.cell? ⟨w.heap.size, 0, none⟩ = some (.func (.func NS) #[] #[]) := by rw [cell_of_row W0 _ _ _ _ _ kr]; rfl
  have r1 : W0.cell? ⟨w.heap.size, 1, none⟩ = some (.func (.func NF) BF CF) := by rw [cell_of_row W0 _ _ _ _ _ kr]; rfl
  by_cases hc : (chk l).2 = 0
  · rw [if_pos hc, if_pos hc, if_pos hc]
    have HER : Hid (errV (chk l).2 = .nilIface) := by show _ = _; rw [hc]; exact if_pos rfl
    have HWH := hid_q (whole_ok cS cF hS hF l v W0 (fun W hW => hKw W (hb0.trans (hW.mono hb0.size))) (hI.below hb0 (Nat.le_refl _)) hc)
    obtain ⟨hl40, hop, hcalm⟩ := (chk_iff l).1 hc
    have HOK : Hid (CrsOk 100 (runQ seesF fallF l l.length)) := (crsOk_all seesF fallF hop l.length (Nat.le_refl _)).up (by omega)
    obtain ⟨ad, b, off, cap, rfl, -⟩ := hI
    clear hc hop hcalm hl40 hb0 kz kr hsz hS hF cS cF hKw
    go_enter Tryz.func29, Tryz.ntmps29
    go_upto_region 1 with (fail)
    rw [← hW0]
    obtain ⟨Z, hZ⟩ : ∃ Z, Z = w.heap.size + 1 := ⟨_, rfl⟩
    rw [← hZ] at HKZ ⊢
    obtain ⟨PR, hPR⟩ : ∃ P, P = w.heap.size := ⟨_, rfl⟩
    rw [← hPR] at r0 r1 ⊢
    have HZZ : Hid (Z < W0.heap.size ∧ w.heap.size ≤ Z) := by have := HSZ.out; exact ⟨by omega, by omega⟩
    clear hW0 hZ hPR
    go_wp2_with fail
    refine HWH.out.mono ?_
    rintro e w2 ⟨W1, R, rfl, hb1, ck, hok⟩
    have HB2 : Hid (Below W0.heap.size W0 w2) := hb1.trans (hok.old.mono hb1.size)
    have kd := hok.c2
    obtain ⟨adD, cD, eD, -⟩ := own_slice3 hok.done
    have hID := isInts_own hok.done rfl
    rw [eD] at kd hID
    have HOC := hid_q (outcome_crs hok HOK.out _ _ hID HOK.out.six HOK.out.lenD)
    obtain ⟨ND, hND⟩ : ∃ n, (runQ seesF fallF l l.length).done.length = n := ⟨_, rfl⟩
    rw [hND] at kd HOC
    have hRlt := hok.lt
    clear eD hID hND
    clear hb1 hok r0 r1
    go_wp2_with fail
    refine HOC.out.mono ?_
    rintro e w5 ⟨a1, a2, a3, rfl, hi1, hi2, hi3, hr, hb5⟩
    have HBW : Hid (Below W0.heap.size W0 w5) := HB2.out.trans (hb5.mono HB2.out.size)
    have hz5 := (HBW.out.block Z HZZ.out.1).trans HKZ.out
    have HF5 := hid_q (fin5 hz5 HZZ.out.2 (HB0.out.trans (HBW.out.mono HB0.out.size)) (u1 := a1) (u2 := a2) (u3 := a3) hi1 hi2 hi3)
    have HRR := hid_q hr
    have z0 : w5.cell? ⟨Z, 0, none⟩ = some (.slice none 0 0) := by rw [cell_of_row w5 Z _ _ _ _ hz5]; rfl
    have z1 : w5.cell? ⟨Z, 1, none⟩ = some (.slice none 0 0) := by rw [cell_of_row w5 Z _ _ _ _ hz5]; rfl
    have z2 : w5.cell? ⟨Z, 2, none⟩ = some (.slice none 0 0) := by rw [cell_of_row w5 Z _ _ _ _ hz5]; rfl
    have y0 : w5.frozen? ⟨Z, 0, none⟩ = false := by simp [World.frozen?, hz5]
    have y1 : w5.frozen? ⟨Z, 1, none⟩ = false := by simp [World.frozen?, hz5]
    have y2 : w5.frozen? ⟨Z, 2, none⟩ = false := by simp [World.frozen?, hz5]
    obtain ⟨d1, n1, p1, x1⟩ : ∃ d n p, a1 = .slice d n p := by obtain ⟨a, _, _, c, h, _⟩ := hi1; exact ⟨a, _, c, h⟩
    obtain ⟨d2, n2, p2, x2⟩ : ∃ d n p, a2 = .slice d n p := by obtain ⟨a, _, _, c, h, _⟩ := hi2; exact ⟨a, _, c, h⟩
    obtain ⟨d3, n3, p3, x3⟩ : ∃ d n p, a3 = .slice d n p := by obtain ⟨a, _, _, c, h, _⟩ := hi3; exact ⟨a, _, c, h⟩
    subst x1 x2 x3
    clear hi1 hi2 hi3 hr hb5 hz5
    go_wp2_with fail
    refine bodyPost_ret (v := .tuple #[.agg #[.slice d1 n1 p1, .slice d2 n2 p2, .slice d3 n3 p3], .nilIface]) (results_twoQ Tryz.results29 _ _ Z 41 #[.slice d1 n1 p1, .slice d2 n2 p2, .slice d3 n3 p3] (0, 0) _ .nilIface rfl rfl HF5.out.1 Tryz.underlying41 rfl outcome_infoQ) rfl ⟨_, _, _, by rw [HER.out], HF5.out.2.1, HF5.out.2.2.1, HF5.out.2.2.2.1, HRR.out, HF5.out.2.2.2.2⟩
  · rw [if_neg hc, if_neg hc, if_neg hc]
    have HER : Hid (errV (chk l).2 = .iface 73 (.int .i64 (chk l).2)) := by show _ = _; unfold errV; rw [if_neg hc]
    have HWH := hid_q (whole_bad (.func (.func NS) #[] #[]) (.func (.func NF) BF CF) l v W0 (hI.below hb0 (Nat.le_refl _)) hc)
    obtain ⟨ad, b, off, cap, rfl, -⟩ := hI
    obtain ⟨n, hn⟩ : ∃ n, (chk l).2 = n := ⟨_, rfl⟩
    rw [hn] at HER HWH ⊢
    clear hc hb0 kz kr hsz hS hF cS cF hn hKw
    go_enter Tryz.func29, Tryz.ntmps29
    go_upto_region 1 with (fail)
    rw [← hW0]
    obtain ⟨Z, hZ⟩ : ∃ Z, Z = w.heap.size + 1 := ⟨_, rfl⟩
    rw [← hZ] at HKZ ⊢
    obtain ⟨PR, hPR⟩ : ∃ P, P = w.heap.size := ⟨_, rfl⟩
    rw [← hPR] at r0 r1 ⊢
    have HZZ : Hid (Z < W0.heap.size ∧ w.heap.size ≤ Z) := by have := HSZ.out; exact ⟨by omega, by omega⟩
    clear hW0 hZ hPR
    go_wp2_with fail
    refine HWH.out.mono ?_
    rintro e w5 ⟨rfl, hb1⟩
    have HBW := hid_q hb1
    have hz5 := (HBW.out.block Z HZZ.out.1).trans HKZ.out
    have HF5 := hid_q (fin5 hz5 HZZ.out.2 (HB0.out.trans (HBW.out.mono HB0.out.size)) (u1 := .slice none 0 0) (u2 := .slice none 0 0) (u3 := .slice none 0 0) (isInts_nil _) (isOps_nilQ _) (isInts_nil _))
    have z0 : w5.cell? ⟨Z, 0, none⟩ = some (.slice none 0 0) := by rw [cell_of_row w5 Z _ _ _ _ hz5]; rfl
    have z1 : w5.cell? ⟨Z, 1, none⟩ = some (.slice none 0 0) := by rw [cell_of_row w5 Z _ _ _ _ hz5]; rfl
    have z2 : w5.cell? ⟨Z, 2, none⟩ = some (.slice none 0 0) := by rw [cell_of_row w5 Z _ _ _ _ hz5]; rfl
    have y0 : w5.frozen? ⟨Z, 0, none⟩ = false := by simp [World.frozen?, hz5]
    have y1 : w5.frozen? ⟨Z, 1, none⟩ = false := by simp [World.frozen?, hz5]
    have y2 : w5.frozen? ⟨Z, 2, none⟩ = false := by simp [World.frozen?, hz5]
    clear hb1 hz5 r0 r1
    go_wp2_with fail
    refine bodyPost_ret (v := .tuple #[.agg #[.slice none 0 0, .slice none 0 0, .slice none 0 0], .iface 73 (.int .i64 n)]) (results_twoQ Tryz.results29 _ _ Z 41 #[.slice none 0 0, .slice none 0 0, .slice none 0 0] (0, 0) _ (.iface 73 (.int .i64 n)) rfl rfl HF5.out.1 Tryz.underlying41 rfl outcome_infoQ) rfl ⟨_, _, _, by rw [HER.out], HF5.out.2.1, HF5.out.2.2.1, HF5.out.2.2.2.1, ⟨_, _, _, rfl, Nat.le_refl _⟩, HF5.out.2.2.2.2⟩
theorem outV (l : List Op3) : outU 1 okV false l = ((if (chk l).2 = 0 then (runQ seesV fallV l l.length).done else [], if (chk l).2 = 0 then (runQ seesV fallV l l.length).done.flatMap (runQ seesV fallV l l.length).read else [], if (chk l).2 = 0 then lastsQ (runQ seesV fallV l l.length) 6 else []), (chk l).2) := by
  by_cases hc : (chk l).2 = 0
  · rw [if_pos hc, if_pos hc, if_pos hc, crs_out rulesV hc, hc]; rfl
  · rw [if_neg hc, if_neg hc, if_neg hc, outU_bad hc]
end Go.Proofs.YtccjognnehoodagGreatDoor

namespace Go.Proofs.YtccjognnehoodagGreatDoor

theorem putL_mem (l : List Int) (n x : Int) : x ∈ putL l n ↔ x = n ∨ x ∈ l := by
  induction l with
  | nil => simp [putL]
  | cons a r ih =>
    unfold putL
    split
    · rename_i h; subst h; simp
    · split
      · simp
      · rw [List.mem_cons, ih, List.mem_cons]
        constructor
        · rintro (h | h | h)
          · exact .inr (.inl h)
          · exact .inl h
          · exact .inr (.inr h)
        · rintro (h | h | h)
          · exact .inr (.inl h)
          · exact .inl h
          · exact .inr (.inr h)
theorem putL_rise {l : List Int} (h : l.Pairwise (· < ·)) (n : Int) : (putL l n).Pairwise (· < ·) := by
  induction l with
  | nil => simp [putL]
  | cons a r ih =>
    obtain ⟨h1, h2⟩ := List.pairwise_cons.1 h
    unfold putL
    split
    · exact h
    · rename_i hne
      split
      · rename_i hlt
        refine List.pairwise_cons.2 ⟨fun x hx => ?_, h⟩
        rcases List.mem_cons.1 hx with rfl | hx
        · exact hlt
        · have := h1 x hx; omega
      · refine List.pairwise_cons.2 ⟨fun x hx => ?_, ih h2⟩
        rcases (putL_mem r n x).1 hx with rfl | hx
        · omega
        · exact h1 x hx
/-- All deals that edges name, rising. -/
def namedI (l : List Edge2) : List Int := l.foldl (fun d e => putL (putL d e.1) e.2) []
theorem namedI_snoc (l : List Edge2) (e : Edge2) : namedI (l ++ [e]) = putL (putL (namedI l) e.1) e.2 := by simp [namedI]
theorem rev_ind {P : List Edge2 → Prop} (h0 : P []) (h1 : ∀ l e, P l → P (l ++ [e])) (l : List Edge2) : P l := by
  have : ∀ n (l : List Edge2), l.length = n → P l := by
    intro n
    induction n with
    | zero => intro l hl; rw [List.length_eq_zero_iff.1 hl]; exact h0
    | succ n ih =>
      intro l hl
      have hne : l ≠ [] := fun e => by rw [e] at hl; simp at hl
      rw [← List.dropLast_concat_getLast hne]
      exact h1 _ _ (ih _ (by rw [List.length_dropLast, hl]; rfl))
  exact this _ l rfl
theorem namedI_rise (l : List Edge2) : (namedI l).Pairwise (· < ·) := by
  refine rev_ind (P := fun l => (namedI l).Pairwise (· < ·)) (by simp [namedI]) (fun l e ih => ?_) l
  rw [namedI_snoc]
  exact putL_rise (putL_rise ih _) _
theorem namedI_len (l : List Edge2) : (namedI l).length ≤ 2 * l.length := by
  refine rev_ind (P := fun l => (namedI l).length ≤ 2 * l.length) (by simp [namedI]) (fun l e ih => ?_) l
  rw [namedI_snoc, List.length_append]
  have h1 := putL_len (putL (namedI l) e.1) e.2
  have h2 := putL_len (namedI l) e.1
  simp only [List.length_singleton]
  omega
theorem namedI_mem (l : List Edge2) (x : Int) : x ∈ namedI l ↔ ∃ e ∈ l, x = e.1 ∨ x = e.2 := by
  refine rev_ind (P := fun l => x ∈ namedI l ↔ ∃ e ∈ l, x = e.1 ∨ x = e.2) (by simp [namedI]) (fun l e ih => ?_) l
  rw [namedI_snoc, putL_mem, putL_mem, ih]
  constructor
  · rintro (h | h | ⟨f, hf, h⟩)
    · exact ⟨e, by simp, .inr h⟩
    · exact ⟨e, by simp, .inl h⟩
    · exact ⟨f, List.mem_append_left _ hf, h⟩
  · rintro ⟨f, hf, h⟩
    rcases List.mem_append.1 hf with hf | hf
    · exact .inr (.inr ⟨f, hf, h⟩)
    · rw [List.mem_singleton.1 hf] at h
      rcases h with h | h
      · exact .inr (.inl h)
      · exact .inl h
theorem namedI_deal {l : List Edge2} (hr : Right l) {x : Int} (h : x ∈ namedI l) : 1 ≤ x ∧ x ≤ 6 := by
  obtain ⟨e, he, h2⟩ := (namedI_mem l x).1 h
  have := hr e he
  rcases h2 with h2 | h2 <;> omega
theorem namedS_I (l : List Edge2) (t : Nat) : namedS l t = inB (namedI l) (t : Int) := by
  rw [Bool.eq_iff_iff, inB_iff, namedI_mem]
  unfold namedS
  rw [List.any_eq_true]
  constructor
  · rintro ⟨e, he, h⟩
    simp only [Bool.or_eq_true, beq_iff_eq] at h
    exact ⟨e, he, h.imp Eq.symm Eq.symm⟩
  · rintro ⟨e, he, h⟩
    exact ⟨e, he, by simp only [Bool.or_eq_true, beq_iff_eq]; exact h.imp Eq.symm Eq.symm⟩
/-- Those of a list that are not out yet. -/
def leftS (d out : List Int) : Set7 := fun t => inB d (t : Int) && !inB out (t : Int)
/-- May a deal be next? -/
def blockB (d out : List Int) (x : Int) (e : Edge2) : Bool := e.2 == x && (inB d e.1 && !inB out e.1)
def okD (d : List Int) (l : List Edge2) (out : List Int) (x : Int) : Bool := !inB out x && !l.any (blockB d out x)
theorem any_same {q r : Edge2 → Bool} : ∀ {l : List Edge2}, (∀ e ∈ l, q e = r e) → l.any q = l.any r := by
  intro l
  induction l with
  | nil => intro _; rfl
  | cons a t ih =>
    intro h
    rw [List.any_cons, List.any_cons, h a (List.mem_cons_self ..), ih fun e he => h e (List.mem_cons_of_mem _ he)]
theorem ok_free {l : List Edge2} (hr : Right l) (d out : List Int) (t : Nat) (ht : (t : Int) ∈ d) : okD d l out (t : Int) = freeB l (leftS d out) t := by
  unfold okD freeB
  have h1 : leftS d out t = !inB out (t : Int) := by unfold leftS; rw [inB_iff.2 ht]; rfl
  rw [h1]
  congr 2
  refine any_same fun e he => ?_
  have := hr e he
  unfold blockB holdB leftS
  rw [Int.toNat_of_nonneg (by omega)]
/-- The first of a list that may be next. -/
def firstD (d : List Int) (l : List Edge2) (out : List Int) (k : Nat) : Int := ((d.take k).find? (okD d l out)).getD 0
theorem firstD_next {l : List Edge2} (hr : Right l) (out : List Int) : firstD (namedI l) l out (namedI l).length = (nextN l (leftS (namedI l) out) : Int) := by
  unfold firstD
  rw [List.take_length]
  have hnot : ∀ j : Nat, (j : Int) ∉ namedI l → freeB l (leftS (namedI l) out) j = false := fun j hj => by
    unfold freeB leftS
    rw [inB_not.2 hj]; rfl
  cases hf : (namedI l).find? (okD (namedI l) l out) with
  | none =>
    have h1 := List.find?_eq_none.1 hf
    rw [next_none fun j _ _ => ?_]
    · rfl
    · by_cases hj : (j : Int) ∈ namedI l
      · rw [← ok_free hr _ _ _ hj]
        simpa using h1 _ hj
      · exact hnot j hj
  | some x =>
    obtain ⟨hx, pa, pb, hsplit, hno⟩ := List.find?_eq_some_iff_append.1 hf
    have hxm : x ∈ namedI l := by rw [hsplit]; simp
    have hd := namedI_deal hr hxm
    obtain ⟨t, rfl⟩ : ∃ t : Nat, x = t := ⟨x.toNat, by omega⟩
    rw [next_hit (t := t) (by omega) (by omega) (by rw [← ok_free hr _ _ _ hxm]; exact hx) fun j hj1 hj => ?_]
    · rfl
    · by_cases hjm : (j : Int) ∈ namedI l
      · have hja : (j : Int) ∈ pa := by
          have hj2 := hjm
          rw [hsplit] at hj2
          rcases List.mem_append.1 hj2 with h | h
          · exact h
          · have hrise := namedI_rise l
            rw [hsplit] at hrise
            have h2 := (List.pairwise_append.1 hrise).2.1
            rcases List.mem_cons.1 h with h | h
            · have : j = t := by omega
              omega
            · have := (List.pairwise_cons.1 h2).1 _ h
              omega
        have := hno _ hja
        rw [← ok_free hr _ _ _ hjm]
        simpa using this
      · exact hnot j hjm
theorem firstD_zero (d : List Int) (l : List Edge2) (out : List Int) : firstD d l out 0 = 0 := by simp [firstD]
/-- One more of a rising list: only where there was none. -/
theorem firstD_succ {d : List Int} {l : List Edge2} {out : List Int} {k : Nat} {x : Int} (hk : d[k]? = some x) (hrise : d.Pairwise (· < ·)) (hpos : ∀ y ∈ d, 1 ≤ y) :
    firstD d l out (k + 1) = if okD d l out x = true ∧ (firstD d l out k = 0 ∨ x < firstD d l out k) then x else firstD d l out k := by
  have hlt := (List.getElem?_eq_some_iff.1 hk).1
  have hx : d[k] = x := (List.getElem?_eq_some_iff.1 hk).2
  unfold firstD
  rw [List.take_succ_eq_append_getElem hlt, hx, List.find?_append]
  cases hf : (d.take k).find? (okD d l out) with
  | none =>
    by_cases ho : okD d l out x = true
    · simp [ho]
    · simp [ho]
  | some y =>
    have hy := List.mem_of_find?_eq_some hf
    have hyd : y ∈ d := List.mem_of_mem_take hy
    have h1 := hpos y hyd
    have hyx : y < x := by
      have h2 : d = d.take k ++ x :: d.drop (k + 1) := by
        rw [← hx, ← List.drop_eq_getElem_cons hlt, List.take_append_drop]
      rw [h2] at hrise
      exact (List.pairwise_append.1 hrise).2.2 y hy x (List.mem_cons_self ..)
    have hn : ¬ (okD d l out x = true ∧ (y = 0 ∨ x < y)) := fun ⟨_, h⟩ => by omega
    simp only [Option.some_or, Option.getD_some]
    rw [if_neg hn]
theorem leftS_next {d out : List Int} {t : Nat} : leftS d (out ++ [(t : Int)]) = setS (leftS d out) t false := by
  funext k
  unfold leftS setS
  by_cases h : k = t
  · subst h
    rw [if_pos rfl, (inB_iff (l := out ++ [(k : Int)])).2 (by simp)]
    simp
  · rw [if_neg h]
    congr 2
    rw [Bool.eq_iff_iff, inB_iff, inB_iff, List.mem_append, List.mem_singleton]
    constructor
    · rintro (h1 | h1)
      · exact h1
      · omega
    · exact .inl
theorem leftS_start (l : List Edge2) : leftS (namedI l) [] = namedS l := by
  funext t
  rw [namedS_I]
  unfold leftS
  rw [inB_not.2 (by simp : (t : Int) ∉ ([] : List Int))]
  simp
theorem setOf_iff : ∀ (r : List Nat) (k : Nat), setOf r k = true ↔ k ∈ r := by
  intro r
  induction r with
  | nil => intro k; simp [setOf]
  | cons t r ih =>
    intro k
    show setS (setOf r) t true k = true ↔ k ∈ t :: r
    unfold setS
    by_cases h : k = t
    · simp [h]
    · rw [if_neg h, ih]; simp [h]
theorem cnt_named {l : List Edge2} (hr : Right l) : cntS (namedS l) = (namedI l).length := by
  have hd : ∀ x ∈ namedI l, 1 ≤ x ∧ x ≤ 6 := fun x hx => namedI_deal hr hx
  have h1 : namedS l = setOf ((namedI l).map Int.toNat) := by
    funext t
    rw [Bool.eq_iff_iff, namedS_I, inB_iff, setOf_iff, List.mem_map]
    constructor
    · intro h; exact ⟨_, h, by simp⟩
    · rintro ⟨x, hx, rfl⟩
      have := hd x hx
      rw [Int.toNat_of_nonneg (by omega)]; exact hx
  rw [h1, nodup_short, List.length_map]
  · have h2 := namedI_rise l
    rw [List.nodup_iff_pairwise_ne, List.pairwise_map]
    refine List.Pairwise.imp_of_mem (fun {a b} ha hb hab => ?_) h2
    have := hd a ha; have := hd b hb
    omega
  · intro k hk
    obtain ⟨x, hx, rfl⟩ := List.mem_map.1 hk
    have := hd x hx
    omega
theorem any_cnt {s : Set7} (h : anyS s = false) : cntS s = 0 := by
  have hz : ∀ k, k < 7 → s k = false := fun k hk => by
    have := List.any_eq_false.1 h k (List.mem_range.2 hk)
    simpa using this
  unfold cntS
  rw [hz 0 (by omega), hz 1 (by omega), hz 2 (by omega), hz 3 (by omega), hz 4 (by omega), hz 5 (by omega), hz 6 (by omega)]
  rfl
end Go.Proofs.YtccjognnehoodagGreatDoor
