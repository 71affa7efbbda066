/-
  PROVED HERE: package course: Whole and Run, by any two rules, go over ops as chapters 11 to 14 have it for such rules; package valid keeps what it is asked (RunsC). Old memory stays as it was.
  Conditions: what the rules answer is a premise of the first.
-/
import Derived.Test.YtccjognnehoodahCrsOut
namespace Go.Proofs.Ytccjognnehoodah
open Go.RowKit

set_option maxHeartbeats 4000000 in
set_option maxRecDepth 100000 in
theorem newCourse_crs (S F : Value) (hS : ∃ N, S = .func (.func N) #[] #[]) (hF : ∃ N B C, F = .func (.func N) B C) (w0 w : World) (hb : Below w0.heap.size w0 w) :
    Calls Try.prog 24 #[.agg #[S, F]] w fun e w' => ∃ R, e = .returned (.pointer (some ⟨R, 0, none⟩)) ∧ ∃ c, CrsAt w0 w' R S F crs0 c := by
  obtain ⟨N1, rfl⟩ := hS
  obtain ⟨N2, B2, C2, rfl⟩ := hF
  have hmm := @run_makeMap Try.prog
  have HM := hid_q (crs_made w0 (w.alloc (.cells #[.func (.func N1) #[] #[], .func (.func N2) B2 C2] 53)) (hb.alloc hb.size _) (.func (.func N1) #[] #[]) (.func (.func N2) B2 C2))
  simp only [World.size_alloc] at HM
  clear hb
  go_enter Try.func24, Try.ntmps24
  go_wp2_with fail
  go_ret
  exact ⟨_, rfl, _, HM.out⟩
theorem isOps_nilQ (w : World) : IsOps w (.slice none 0 0) [] := ⟨none, 0, 0, 0, rfl, fun h => absurd h (by simp), fun _ => ⟨rfl, rfl⟩, .inr rfl, fun i hi => by simp at hi⟩
theorem results_twoQ {P : Program} {fn : Func} {p q : Tmp} {ty : TypeId} (h : fn.results = #[.cell p ty, .tmp q]) (tmps : Array Value) (w : World) (g : Nat) (t : TypeId) (cs : Array Value) (fr : Nat × Nat) (d : TypeDesc) (v : Value)
    (hp : tmps.getD p undef = .pointer (some ⟨g, 0, none⟩)) (hq : tmps.getD q undef = v) (hg : w.heap[g]? = some (.cells cs t fr))
    (hu : P.underlying ty = some d) (hd : (match d with | .struct _ | .array _ _ => true | _ => false) = true) (hi : (P.info? ty).map (·.size) = some cs.size) :
    (results fn tmps).run P w = .ok (.tuple #[.agg cs, v]) w := by
  have hp' : tmps[p]?.getD undef = .pointer (some ⟨g, 0, none⟩) := by simpa using hp
  have hq' : tmps[q]?.getD undef = v := by simpa using hq
  simp [results, h, hp', hq', asAddr, run_loadVar_row w g t ty cs fr d hg hu hd hi]
/-- What comes of one op. -/
theorem come_any {K : World → Prop} {NS NF : Nat} {BF CF : Array Value} {seesF : Crs → Int → Int → Int} {fallF : Crs → Int → Bool} (cS : RuleFn NS) (cF : RuleFn NF) (hS : SeesC NS seesF) (hF : FallK K NF BF CF fallF) {w0 w : World} (hK0 : K w0) {R : Nat} {q : Crs} {c : CLay} (h : CrsAt w0 w R (.func (.func NS) #[] #[]) (.func (.func NF) BF CF) q c) (hq : CrsOk 999 q) (o : Op3) (h1 : 1 ≤ o.1) (h6 : o.1 ≤ 6) :
    Calls Try.prog 25 #[.pointer (some ⟨R, 0, none⟩), .agg #[.int .i64 o.1, .int .i64 o.2.1, .int .i64 o.2.2]] w fun e w' => e = .returned (.tuple #[]) ∧ CameTo w0 w' R (.func (.func NS) #[] #[]) (.func (.func NF) BF CF) (stepQ seesF fallF q o) := by
  obtain ⟨t, a, i⟩ := o
  simp only at h1 h6
  unfold stepQ
  simp only
  by_cases e1 : a = 1
  · subst e1
    rw [if_pos rfl]
    exact come_read cS hS h hq i h1 h6
  · rw [if_neg e1]
    by_cases e2 : a = 2
    · subst e2
      rw [if_pos rfl]
      exact come_write h hq i h1 h6
    · rw [if_neg e2]
      by_cases e3 : a = 3
      · subst e3
        rw [if_pos rfl]
        exact come_commit cF hF hK0 h hq i h1 h6
      · rw [if_neg e3]
        exact come_abort h a i h1 h6 e1 e2 e3
theorem CrsOk.up {m n : Nat} {q : Crs} (h : CrsOk m q) (hm : m ≤ n) : CrsOk n q := ⟨Nat.le_trans h.lenD hm, fun t => Nat.le_trans (h.lenR t) hm, fun t => Nat.le_trans (h.lenW t) hm, h.six, h.cnt, h.begs⟩
set_option maxHeartbeats 16000000 in
set_option maxRecDepth 100000 in
theorem whole_ok {K : World → Prop} {NS NF : Nat} {BF CF : Array Value} {seesF : Crs → Int → Int → Int} {fallF : Crs → Int → Bool} (cS : RuleFn NS) (cF : RuleFn NF) (hS : SeesC NS seesF) (hF : FallK K NF BF CF fallF) (l : List Op3) (v : Value) (w : World) (hKw : ∀ W, Below w.heap.size w W → K W) (hI : IsOps w v l) (hc : (chk l).2 = 0) :
    Calls Try.prog 13 #[v, .agg #[.func (.func NS) #[] #[], .func (.func NF) BF CF]] w fun e w' => ∃ W0 R, e = .returned (.tuple #[.pointer (some ⟨R, 0, none⟩), .nilIface]) ∧ Below w.heap.size w W0 ∧ CameTo W0 w' R (.func (.func NS) #[] #[]) (.func (.func NF) BF CF) (runQ seesF fallF l l.length) := by
  obtain ⟨W0, hW0⟩ : ∃ W, W = w.alloc (.cells #[.func (.func NS) #[] #[], .func (.func NF) BF CF] 53) := ⟨_, rfl⟩
  have hb0 : Below w.heap.size w W0 := by rw [hW0]; exact (Below.refl _ w).alloc (Nat.le_refl _) _
  have HB0 := hid_q hb0
  have HKK := hid_q (hKw W0 hb0)
  have HCK := hid_q (check_ok l v W0 (hI.below hb0 (Nat.le_refl _)) hc)
  obtain ⟨hl40, hop, hcalm⟩ := (chk_iff l).1 hc
  have HOP : Hid (∀ o ∈ l, isOpB o = true) := hop
  have HOK : Hid (∀ k, k ≤ l.length → CrsOk 40 (runQ seesF fallF l k)) := fun k hk => (crsOk_all seesF fallF hop k hk).up (by omega)
  obtain ⟨ad, b, off, cap, rfl, ha, -, hbB, hops⟩ := hI
  have HE : Hid (∀ W, Below w.heap.size w W → ∀ k, k < l.length → ad = some ⟨b, off, none⟩ ∧ b < w.heap.size ∧ W.cell? ⟨b, off + k * 3, none⟩ = some (.int .i64 (opAt l k).1) ∧ W.cell? ⟨b, off + k * 3 + 1, none⟩ = some (.int .i64 (opAt l k).2.1) ∧ W.cell? ⟨b, off + k * 3 + 2, none⟩ = some (.int .i64 (opAt l k).2.2)) := fun W hW k hk => by
    refine ⟨ha (by omega), ?_, (hops.below hW hbB) k hk⟩
    rcases hbB with h | h
    · exact h
    · subst h; simp at hk
  have HCA : Hid (∀ (w w' : World) (R : Nat) (q : Crs) (c : CLay) (o : Op3), K w → CrsAt w w' R (.func (.func NS) #[] #[]) (.func (.func NF) BF CF) q c → CrsOk 40 q → 1 ≤ o.1 → o.1 ≤ 6 → Calls Try.prog 25 #[.pointer (some ⟨R, 0, none⟩), .agg #[.int .i64 o.1, .int .i64 o.2.1, .int .i64 o.2.2]] w' fun e w2 => e = .returned (.tuple #[]) ∧ CameTo w w2 R (.func (.func NS) #[] #[]) (.func (.func NF) BF CF) (stepQ seesF fallF q o)) := fun w w' R q c o hk h hq h1 h6 => come_any cS cF hS hF hk h (hq.up (by omega)) o h1 h6
  have kr : W0.heap[w.heap.size]? = some (.cells #[.func (.func NS) #[] #[], .func (.func NF) BF CF] 53 (0, 0)) := by rw [hW0]; exact World.alloc_heap_new w _
  have hsz : W0.heap.size = w.heap.size + 1 := by rw [hW0]; simp
  have HKR := hid_q kr
  have HSZ := hid_q hsz
  clear hc hop hcalm ha hbB hops hb0 kr hsz hS hF cS cF hKw
  go_enter Try.func13, Try.ntmps13
  go_upto_region 1 with (fail)
  rw [← hW0]
  obtain ⟨PR, hPR⟩ : ∃ P, P = w.heap.size := ⟨_, rfl⟩
  rw [← hPR] at HKR ⊢
  have HZZ : Hid (PR < W0.heap.size) := by have := HSZ.out; show PR < _; omega
  clear hW0 hPR
  go_wp2_with fail
  refine HCK.out.mono ?_
  rintro e w1 ⟨rfl, hb1⟩
  have HB1 := hid_q hb1
  have r0 : w1.cell? ⟨PR, 0, none⟩ = some (.func (.func NS) #[] #[]) := by rw [cell_of_row w1 PR _ _ _ _ ((hb1.block PR HZZ.out).trans HKR.out)]; rfl
  have r1 : w1.cell? ⟨PR, 1, none⟩ = some (.func (.func NF) BF CF) := by rw [cell_of_row w1 PR _ _ _ _ ((hb1.block PR HZZ.out).trans HKR.out)]; rfl
  clear hb1
  go_wp2_with fail
  refine (newCourse_crs (.func (.func NS) #[] #[]) (.func (.func NF) BF CF) ⟨_, rfl⟩ ⟨_, _, _, rfl⟩ W0 w1 HB1.out).mono ?_
  rintro e w2 ⟨R, rfl, c2, ho2⟩
  have HO2 := hid_q ho2
  clear ho2 r0 r1
  go_wp2_with fail
  go_loopw [23] (fun v23 wr => ∃ k : Nat, k ≤ l.length ∧ v23 = .int .i64 k ∧ CameTo W0 wr R (.func (.func NS) #[] #[]) (.func (.func NF) BF CF) (runQ seesF fallF l k)) (fun v23 _ => l.length - (intOf v23).toNat)
  case atStart => exact ⟨0, Nat.zero_le _, rfl, c2, HO2.out⟩
  case round =>
    obtain ⟨k, hk, rfl, ck, hok⟩ := hrel
    have HK := hid_q hok
    clear hok HO2
    by_cases hlt : k < l.length
    · have hlt' : (k : Int) < (l.length : Int) := by omega
      have HBW : Hid (Below w.heap.size w wr) := HB0.out.trans (HK.out.old.mono HB0.out.size)
      obtain ⟨rfl, hbw, e0, e1, e2⟩ := HE.out wr HBW.out k hlt
      obtain ⟨⟨t, a, i⟩, ho⟩ : ∃ o : Op3, opAt l k = o := ⟨_, rfl⟩
      have hiso : isOpB (t, a, i) = true := by rw [← ho]; exact HOP.out _ (opAt_mem hlt)
      have h16 := isOp_range hiso
      have HNX : Hid (runQ seesF fallF l (k + 1) = stepQ seesF fallF (runQ seesF fallF l k) (t, a, i)) := by show _ = _; rw [runQ, ho]
      rw [ho] at e0 e1 e2
      simp only at e0 e1 e2
      have hbR : b < wr.heap.size := Nat.lt_of_lt_of_le hbw HBW.out.size
      have HCO : Hid (∀ W, Below wr.heap.size wr W → Calls Try.prog 25 #[.pointer (some ⟨R, 0, none⟩), .agg #[.int .i64 t, .int .i64 a, .int .i64 i]] W fun e w' => e = .returned (.tuple #[]) ∧ CameTo W0 w' R (.func (.func NS) #[] #[]) (.func (.func NF) BF CF) (stepQ seesF fallF (runQ seesF fallF l k) (t, a, i))) := fun W hW =>
        HCA.out W0 W R _ ck (t, a, i) HKK.out (HK.out.below hW) (HOK.out k hk) h16.1 h16.2
      clear ho hiso h16
      go_wp2_with fail
      refine (HCO.out _ ((Below.refl _ wr).alloc (Nat.le_refl _) _)).mono ?_
      rintro e w3 ⟨rfl, ho3⟩
      have HO3 := hid_q ho3
      clear ho3 e0 e1 e2
      go_wp2_with fail
      go_roundw
      case rel => exact ⟨k + 1, by omega, by go_num, by rw [HNX.out]; exact HO3.out⟩
      case measure => simp [intOf]; omega
    · have hlt' : ¬ (k : Int) < (l.length : Int) := by omega
      obtain rfl : k = l.length := by omega
      clear hk hlt
      go_wp2_with fail
      go_ret2
      exact ⟨W0, R, rfl, HB0.out, ck, HK.out⟩
set_option maxHeartbeats 16000000 in
set_option maxRecDepth 100000 in
theorem whole_bad (S F : Value) (l : List Op3) (v : Value) (w : World) (hI : IsOps w v l) (hc : (chk l).2 ≠ 0) :
    Calls Try.prog 13 #[v, .agg #[S, F]] w fun e w' => e = .returned (.tuple #[.pointer none, .iface 83 (.int .i64 (chk l).2)]) ∧ Below w.heap.size w w' := by
  obtain ⟨W0, hW0⟩ : ∃ W, W = w.alloc (.cells #[S, F] 53) := ⟨_, rfl⟩
  have hb0 : Below w.heap.size w W0 := by rw [hW0]; exact (Below.refl _ w).alloc (Nat.le_refl _) _
  have HB0 := hid_q hb0
  have HCK := hid_q (check_bad l v W0 (hI.below hb0 (Nat.le_refl _)) hc)
  obtain ⟨ad, b, off, cap, rfl, -⟩ := hI
  obtain ⟨n, hn⟩ : ∃ n, (chk l).2 = n := ⟨_, rfl⟩
  rw [hn] at HCK ⊢
  clear hc hb0 hn
  go_enter Try.func13, Try.ntmps13
  go_upto_region 1 with (fail)
  rw [← hW0]
  clear hW0
  go_wp2_with fail
  refine HCK.out.mono ?_
  rintro e w5 ⟨rfl, hb1⟩
  have HBW := hid_q hb1
  clear hb1
  go_wp2_with fail
  go_ret2
  exact ⟨rfl, HB0.out.trans (HBW.out.mono HB0.out.size)⟩
theorem outV (l : List Op3) : outU 1 okV false l = ((if (chk l).2 = 0 then (runQ seesV fallV l l.length).done else [], if (chk l).2 = 0 then (runQ seesV fallV l l.length).done.flatMap (runQ seesV fallV l l.length).read else [], if (chk l).2 = 0 then lastsQ (runQ seesV fallV l l.length) 6 else []), (chk l).2) := by
  by_cases hc : (chk l).2 = 0
  · rw [if_pos hc, if_pos hc, if_pos hc, crs_out rulesV hc, hc]; rfl
  · rw [if_neg hc, if_neg hc, if_neg hc, outU_bad hc]
end Go.Proofs.Ytccjognnehoodah
