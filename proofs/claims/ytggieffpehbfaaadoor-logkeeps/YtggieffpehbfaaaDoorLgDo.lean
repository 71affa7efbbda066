/-
  PROVED HERE: package log's Do.
  Conditions: none.
-/
import Derived.Test.YtggieffpehbfaaaDoorLgAll
namespace Go.Proofs.YtggieffpehbfaaaDoor
open Go.RowKit

/-- A Go call as one step of a region that draws, whatever it answers. -/
theorem step_callE {P : Program} {ops : Array Oper} {o : Oper} {a : Act} {w : World} {K : Act → World → Prop} {Q : Exit → Act → World → Prop} {E : Prop}
    (hgd : o.guard = none) (N : FuncId) (A : Array Operand) (T : Array TypeId) (ho : o.op = .call { callee := .value (.func N), args := A, argTypes := T })
    (vals : Array Value) (hv : A.map a.eval = vals) (hent : ∀ args W, (callFunc N args).run P W = .ok (.enter N args) W) (R : Value → World → Prop)
    (hc : Calls P N vals w fun e w' => ∃ v, e = .returned v ∧ R v w') (h : ∀ v w', R v w' → K (a.put o.dst v) w') :
    if Region.wanted o (yielded ops a.tmps) = true then Oper.wp P o a w K Q else E := by
  have hw : Region.wanted o (yielded ops a.tmps) = true := by simp [Region.wanted, hgd]
  rw [if_pos hw]
  have hrun : (execOp a.eval o).run P w = .ok (.enter N vals) w := by
    have h1 : a.eval (.func N) = .func (.func N) #[] #[] := rfl
    simp [execOp, ho, resolve, h1, hv, Deferred.ofValue, invoke, hent]
  unfold Oper.wp
  rw [hrun]
  show Calls P N vals w _
  refine hc.mono ?_
  rintro e w' ⟨v, rfl, hR⟩
  exact h v w' hR
theorem call_all : ∀ (args : Array Value) (W : World), (callFunc 14 args).run Tryd.prog W = .ok (.enter 14 args) W := fun args W => by kernel_rfl
theorem call_check : ∀ (args : Array Value) (W : World), (callFunc 20 args).run Tryd.prog W = .ok (.enter 20 args) W := fun args W => by kernel_rfl
theorem infoU8 : (Tryd.prog.info? 5).map (fun i => (i.zero, i.size, i.bytes)) = some (some (.int .u8 0), 1, 1) := by kernel_rfl
theorem recL_one (l : List Op3) : ∀ u ∈ recL l, u.oneCell' = true := by
  induction l with
  | nil => intro u hu; cases hu
  | cons o r ih =>
    intro u hu
    simp only [recL, List.mem_cons] at hu
    rcases hu with rfl | rfl | rfl | hu
    · rfl
    · rfl
    · rfl
    · exact ih u hu
/-- An op in a box lies beside a Log. -/
theorem LgIs.box {w : World} {p : Nat} {bv : Value} {st : Int} {rest : List Value} {s : Lg} (h : LgIs w p bv st rest s) (ob : Obj) : LgIs (w.alloc ob) p bv st rest s := h.later ((Below.refl _ w).alloc (Nat.le_refl _) _)
section
variable {w w1 w2 : World} {p : Nat} {bv v2 : Value} {st : Int} {rest news : List Value} {s : Lg} {m : Nat}
/-- Bytes are pushed. -/
structure Pushed (w w' : World) (p : Nat) (bv bv' : Value) (st : Int) (s : Lg) (n : Nat) (all : List Value) : Prop where
  blk : LogAt w' p bv' s.safe st s.stop
  row : w'.ownsRow 0 5 1 bv' n all
  ne : bv'.ownBlock ≠ some p
  turns : Turns (LgFoot p bv) w w'
  foot : ∀ k, LgFoot p bv' k → LgFoot p bv k ∨ w.heap.size ≤ k
theorem LgIs.push (h : LgIs w p bv st rest s) (hown : w2.ownsRow 0 5 1 v2 (s.bytes + m) (recL s.hist ++ rest ++ news)) (hgr : w.grownBy w2 bv.ownBlock) (hap : ∀ g, v2.ownBlock = some g → bv.ownBlock = some g ∨ w.heap.size ≤ g) :
    w2.cell? ⟨p, 0, none⟩ = some bv ∧ w2.frozen? ⟨p, 0, none⟩ = false ∧ Pushed w (w2.setCell ⟨p, 0, none⟩ v2) p bv v2 st s (s.bytes + m) (recL s.hist ++ rest ++ news) := by
  have hlt := h.blk.lt
  have hsame : w2.heap[p]? = w.heap[p]? := hgr.block p hlt (fun e => h.ne e.symm)
  have hb := h.blk.same hsame
  have hne : v2.ownBlock ≠ some p := fun e => by
    rcases hap p e with h1 | h1
    · exact h.ne h1
    · omega
  have ht : Turns (fun k => bv.ownBlock = some k) w w2 := (Turns.refl _ w).grown hgr fun k hk => .inl hk
  refine ⟨hb.row, hb.thaw 0, hb.setRow v2, ?_, hne, ?_, fun k hk => ?_⟩
  · exact (turns_one w2 p 0 v2).own hown fun g hg e => hne (by rw [hg, e])
  · exact Turns.setCell (F := LgFoot p bv) (ht.mono fun k _ hk => Or.inr hk) (p := ⟨p, 0, none⟩) (.inl (.inl rfl)) v2
  · rcases hk with rfl | hk
    · exact .inl (.inl rfl)
    · rcases hap k hk with h1 | h1
      · exact .inl (.inr h1)
      · exact .inr h1
end
section
variable {w w1 : World} {p : Nat} {bv v2 : Value} {st st1 : Int} {s : Lg}
theorem LgIs.halved (h : LgIs w p bv st1 [] (stepS s st)) (hz : st = 0) {u : Value} {n : Nat} (hn : s.bytes = n) (hp : Pushed w w1 p bv v2 st1 (stepS s st) (n + 1) (recL s.hist ++ [] ++ [u])) : LgIs w1 p v2 st1 [u] { s with bytes := s.bytes + 3 / 2, stop := true } := by
  have hb := h.bytes
  have hl := h.left
  subst hz
  subst hn
  refine ⟨hp.blk, ?_, hp.ne, by simp, ?_, h.ends, hl⟩
  · have := hp.row
    rw [List.append_nil] at this
    exact this
  · show s.bytes + 3 / 2 = s.hist.length * 3 + 1
    have hb2 : s.bytes = s.hist.length * 3 + 0 := hb
    omega
theorem LgIs.told (h : LgIs w p bv st1 [] (stepS s st)) (hz : ¬ st = 0) {o : Op3} {n : Nat} (hn : s.bytes = n) (hp : Pushed w w1 p bv v2 st1 (stepS s st) (n + 3) (recL s.hist ++ [] ++ recL [o])) : LgIs w1 p v2 st1 [] ⟨s.hist ++ [o], s.ends ++ [s.bytes + 3], s.bytes + 3, s.safe, lessO s.left, false⟩ := by
  subst hn
  have hb : s.bytes = s.hist.length * 3 + 0 := h.bytes
  have he : s.ends = endsN s.hist.length := h.ends
  have hl : (if st = 0 then s.left else lessO s.left) = leftO st1 := h.left
  have hk : LogAt w1 p v2 s.safe st1 (decide (st = 0)) := hp.blk
  rw [decide_eq_false hz] at hk
  rw [if_neg hz] at hl
  refine ⟨hk, ?_, hp.ne, Nat.zero_le _, ?_, ?_, hl⟩
  · have := hp.row
    rw [List.append_nil] at this
    show World.ownsRow w1 0 _ 1 v2 (s.bytes + 3) (recL (s.hist ++ [o]) ++ [])
    rw [List.append_nil, recL_append]
    exact this
  · show s.bytes + 3 = (s.hist ++ [o]).length * 3 + 0
    rw [List.length_append, List.length_singleton]
    omega
  · show s.ends ++ [s.bytes + 3] = endsN (s.hist ++ [o]).length
    rw [List.length_append, List.length_singleton, endsN_succ, he]
    congr 2
    omega
end
section
variable {w : World} {p : Nat} {bv : Value} {st : Int} {rest : List Value} {s : Lg}
/-- What Do leaves. -/
def DidDo (w : World) (p : Nat) (bv : Value) (s : Lg) (o : Op3) (e : Ending) (w' : World) : Prop := ∃ r s' bv' st' rest', DoR s o r s' ∧ e = .returned (errV r) ∧ LgIs w' p bv' st' rest' s' ∧ Turns (LgFoot p bv) w w' ∧ ∀ k, LgFoot p bv' k → LgFoot p bv k ∨ w.heap.size ≤ k
set_option maxHeartbeats 4000000 in
theorem do_halted (h : LgIs w p bv st rest s) (o : Op3) (hs : s.stop = true) : Calls Tryd.prog 10 #[ptL p, opL o] w (DidDo w p bv s o) := by
  obtain ⟨t, a, x⟩ := o
  have HB := hid_l (h.box (.cells #[.int .i64 t, .int .i64 a, .int .i64 x] 32))
  have c3 := HB.out.blk.stop
  rw [hs] at c3
  have HS := hid_l hs
  unfold ptL opL
  clear h hs
  go_enter Tryd.func10, Tryd.ntmps10
  go_wp2_with fail
  go_ret
  exact ⟨6, s, bv, st, rest, DoR.stopped HS.out, rfl, HB.out, Turns.of_below ((Below.refl _ w).alloc (Nat.le_refl _) _), fun k hk => .inl hk⟩
set_option maxHeartbeats 8000000 in
theorem do_lg (h : LgIs w p bv st rest s) (hok : LgOk s) (o : Op3) (hs : s.stop = false) : Calls Tryd.prog 10 #[ptL p, opL o] w (DidDo w p bv s o) := by
  obtain ⟨i0, hi, hz0, hs0, hy0⟩ := info_parts infoOp
  have HI := hid_l (show Tryd.prog.info? 32 = some i0 ∧ i0.zero = some (.agg #[.int .i64 0, .int .i64 0, .int .i64 0]) ∧ i0.size = 3 ∧ i0.bytes = 24 from ⟨hi, hz0, hs0, hy0⟩)
  obtain ⟨j0, hi1, hz1, hs1, hy1⟩ := info_parts infoU8
  have HJ := hid_l (show Tryd.prog.info? 5 = some j0 ∧ j0.zero = some (.int .u8 0) ∧ j0.size = 1 ∧ j0.bytes = 1 from ⟨hi1, hz1, hs1, hy1⟩)
  clear hi hz0 hs0 hy0 hi1 hz1 hs1 hy1
  have hbb := hok.bytesB
  have hrest : rest = [] := by
    have h1 := hok.last hs
    rw [h.ends, endsN_last] at h1
    have h2 := h.bytes
    exact List.eq_nil_of_length_eq_zero (by omega)
  subst hrest
  obtain ⟨t, a, x⟩ := o
  have hl40 := chk40 hok.right
  have HOK := hid_l hok
  have HS := hid_l hs
  have HW0 := hid_l h
  obtain ⟨W, hW⟩ : ∃ W, W = w.alloc (.cells #[.int .i64 t, .int .i64 a, .int .i64 x] 32) := ⟨_, rfl⟩
  obtain ⟨P, hP⟩ : ∃ P, P = w.heap.size := ⟨_, rfl⟩
  have HWL : Hid (Below w.heap.size w W) := by show Below _ _ _; rw [hW]; exact (Below.refl _ w).alloc (Nat.le_refl _) _
  have HLG : Hid (∀ V, Below W.heap.size W V → LgIs V p bv st [] s) := fun V hV => (HW0.out.later HWL.out).later hV
  have HPP : Hid (∀ V, Below W.heap.size W V → V.cell? ⟨P, 0, none⟩ = some (.int .i64 t) ∧ V.cell? ⟨P, 1, none⟩ = some (.int .i64 a) ∧ V.cell? ⟨P, 2, none⟩ = some (.int .i64 x)) := fun V hV => by
    have hlt : P < W.heap.size := by rw [hW, hP]; simp
    refine ⟨(hV.cell (p := ⟨P, 0, none⟩) hlt).trans ?_, (hV.cell (p := ⟨P, 1, none⟩) hlt).trans ?_, (hV.cell (p := ⟨P, 2, none⟩) hlt).trans ?_⟩ <;> rw [hW, hP] <;> simp
  have c3 := (HLG.out W (Below.refl _ W)).blk.stop
  obtain ⟨q0, q1, q2⟩ := HPP.out W (Below.refl _ W)
  rw [hs] at c3
  have HAL : Hid (∀ V, Below W.heap.size W V → Calls Tryd.prog 14 #[.pointer (some ⟨p, 0, none⟩)] V fun e w' => ∃ v', e = .returned v' ∧ (w'.ownsRow W.heap.size 32 3 v' s.hist.length (flat s.hist) ∧ Below V.heap.size V w')) := fun V hV => by
    refine (all_lg (HLG.out V hV) HOK.out).mono ?_
    rintro e w' ⟨v', rfl, ho, hb⟩
    exact ⟨v', rfl, row_less ho hV.size, hb⟩
  have HCK : Hid (∀ V v, V.ownsRow W.heap.size 32 3 v (s.hist.length + 1) (flat s.hist ++ flat [(t, a, x)]) → Below W.heap.size W V → Calls Tryd.prog 20 #[v] V fun e w' => ∃ v', e = .returned v' ∧ (v' = .tuple #[.int .i64 (chk (s.hist ++ [(t, a, x)])).1, errV (chk (s.hist ++ [(t, a, x)])).2] ∧ Below W.heap.size W w')) := fun V v ho hV => by
    rw [← flat_append] at ho
    refine (check_v (s.hist ++ [(t, a, x)]) v V (isOps_row ho (by simp))).mono ?_
    rintro e w' ⟨rfl, hb⟩
    exact ⟨_, rfl, rfl, hV.trans (hb.mono hV.size)⟩
  obtain ⟨l, hl⟩ : ∃ l, s.hist = l := ⟨_, rfl⟩
  have HLL := hid_l hl
  rw [hl] at HAL HCK hl40
  obtain ⟨n, hn⟩ : ∃ n, l.length = n := ⟨_, rfl⟩
  rw [hn] at HAL HCK hl40
  have HEA := hid_l call_all
  have HEC := hid_l call_check
  unfold ptL opL
  clear h hs hok hl hn
  go_enter Tryd.func10, Tryd.ntmps10
  go_upto_region 1 with (fail)
  rw [← hW, ← hP]
  clear hW hP
  go_upto_region 3 with (fail)
  go_cut [5, 6] from 13 to 48 (fun v5 v6 V => v6 = errV (chk (l ++ [(t, a, x)])).2 ∧ Below W.heap.size W V)
  case first =>
    have b0 := Below.refl W.heap.size W
    go_region_law (first | (refine step_callE rfl 14 _ _ rfl #[.pointer (some ⟨p, 0, none⟩)] (by simp [Act.eval, Act.put]) HEA.out _ (HAL.out _ (by first | exact b0.drew | exact (b0.drew).alloc (by simp) _)) ?_; rintro v1 W1 ⟨ho1, hb1⟩; obtain ⟨ad1, c1, rfl, -⟩ := own_slice3 ho1; have HO1 := hid_l ho1; have hq1 : Below W.heap.size W W1 := (by first | exact b0.drew.trans (hb1.mono (by simp)) | exact ((b0.drew).alloc (by simp) _).trans (hb1.mono (by simp))); obtain ⟨r0, r1, r2⟩ := HPP.out W1 hq1; have hsz1 := hq1.size) | (refine step_append_own rfl (.tmp 15) (.tmp 17) 36 rfl W.heap.size 32 i0 (.agg #[.int .i64 0, .int .i64 0, .int .i64 0]) 3 24 Tryd.underlying36 HI.out.1 HI.out.2.1 HI.out.2.2.1 HI.out.2.2.2 rfl (by decide) (.slice ad1 n c1) n (flat l) (by simp [Act.eval]) (HO1.out.alloc _) ⟨W1.heap.size, 0, none⟩ 1 1 (flat [(t, a, x)]) (by simp [Act.eval]) rfl (one_at W1 t a x) (flat_one _) (by unfold maxLen; omega) (by omega) (by simp; omega) ?_; intro v2 w2 hown2 hgr2 hnil2; have hq2 : Below W.heap.size W w2 := (hq1.alloc hsz1 _).grown hgr2 (by simp; omega) (fun j hj => (HO1.out.lt j hj).1)) | (refine step_append_own rfl (.tmp 15) (.tmp 17) 36 rfl W.heap.size 32 i0 (.agg #[.int .i64 0, .int .i64 0, .int .i64 0]) 3 24 Tryd.underlying36 HI.out.1 HI.out.2.1 HI.out.2.2.1 HI.out.2.2.2 rfl (by decide) (.slice ad1 n c1) n (flat l) (by simp [Act.eval]) HO1.out ⟨W.heap.size, 0, none⟩ 1 1 (flat [(t, a, x)]) (by simp [Act.eval]) rfl (fun j u hj => (hb1.cell (by show (Addr.add _ _).block < _; unfold Addr.add; split <;> simp)).trans (one_at W.drew t a x j u hj)) (flat_one _) (by unfold maxLen; omega) (by omega) (by omega) ?_; intro v2 w2 hown2 hgr2 hnil2; have hq2 : Below W.heap.size W w2 := hq1.grown hgr2 (by omega) (fun j hj => (HO1.out.lt j hj).1)) | (refine step_callE rfl 20 _ _ rfl #[v2] (by simp [Act.eval]) HEC.out _ (HCK.out w2 v2 hown2 hq2) ?_; rintro v3 W3 ⟨rfl, hq3⟩))
    all_goals
      go_wp2_with fail
    all_goals
      go_meet
      exact ⟨rfl, hq3⟩
  case rest =>
    obtain ⟨rfl, hbx⟩ := hcut
    have HQ := hid_l hbx
    obtain ⟨r0, r1, r2⟩ := HPP.out _ hbx
    clear hbx q0 q1 q2 c3 HAL HCK HEA HEC
    by_cases hc : (chk (l ++ [(t, a, x)])).2 = 0
    · have HC := hid_l hc
      rw [hc, show errV 0 = .nilIface from if_pos rfl]
      have htiny : Tiny (t, a, x) := tiny_all hc (by simp)
      have HRC := hid_l (record_fn (t, a, x) htiny wc)
      have HZP : Hid (∀ g V, Below wc.heap.size wc V → Calls Tryd.prog 22 #[.pointer (some ⟨p, 0, none⟩)] V fun e w' => e = .returned (.bool (decide (st = 0))) ∧ LgIs w' p bv (stepN st) [] (stepS s st) ∧ Turns (fun k => k = p) V w' ∧ (g < V.heap.size → ¬ g = p → ∀ j u, V.cell? ((⟨g, 0, none⟩ : Addr).add j) = some u → w'.cell? ((⟨g, 0, none⟩ : Addr).add j) = some u)) := fun g V hV => by
        refine (stops_lg (HLG.out V (HQ.out.trans (hV.mono HQ.out.size))) HS.out).mono ?_
        rintro e w' ⟨he, h1, h2⟩
        refine ⟨he, h1, h2, fun hg hgp j u hu => ?_⟩
        have hbk : ((⟨g, 0, none⟩ : Addr).add j).block = g := by unfold Addr.add; split <;> rfl
        rw [h2.cell (by rw [hbk]; exact hg) (by rw [hbk]; exact hgp)]
        exact hu
      have HPL : Hid (p < wc.heap.size) := (HLG.out wc HQ.out).blk.lt
      clear hc htiny
      have HPUSH : Hid (∀ V, LgIs V p bv (stepN st) [] (stepS s st) → ∀ v2 w2 m news, w2.ownsRow 0 5 1 v2 (s.bytes + m) (recL s.hist ++ [] ++ news) → V.grownBy w2 bv.ownBlock → (∀ g, v2.ownBlock = some g → bv.ownBlock = some g ∨ V.heap.size ≤ g) → w2.cell? ⟨p, 0, none⟩ = some bv ∧ w2.frozen? ⟨p, 0, none⟩ = false ∧ Pushed V (w2.setCell ⟨p, 0, none⟩ v2) p bv v2 (stepN st) (stepS s st) (s.bytes + m) (recL s.hist ++ [] ++ news)) := fun V hV v2 w2 m news g1 g2 g3 => hV.push g1 g2 g3
      obtain ⟨bad, bc, hbv, -⟩ := own_slice3 HW0.out.row
      obtain ⟨B, hB⟩ : ∃ B, s.bytes = B := ⟨_, rfl⟩
      have HBE := hid_l hB
      have HBV := hid_l hbv
      rw [hB] at hbv hbb HPUSH
      have HEND : Hid (∀ w2 w3 w4 v2 n2 all, Below wc.heap.size wc w2 → Turns (fun k => k = p) w2 w3 → Pushed w3.drew w4 p bv v2 (stepN st) (stepS s st) n2 all → Turns (LgFoot p bv) w w4 ∧ ∀ k, LgFoot p v2 k → LgFoot p bv k ∨ w.heap.size ≤ k) := fun w2 w3 w4 v2 n2 all g1 g2 g3 => by
        have e1 : Turns (LgFoot p bv) w w2 := ((Turns.of_below HWL.out).then_below HQ.out).then_below g1
        have e2 : Turns (LgFoot p bv) w w3.drew := (e1.trans g2 fun _ _ e => Or.inl e).drew
        refine ⟨e2.trans g3.turns fun _ _ e => e, fun k hk => ?_⟩
        rcases g3.foot k hk with h | h
        · exact .inl h
        · exact .inr (Nat.le_trans e2.size h)
      have HEND2 : Hid (∀ w2 w3 w4 v2 n2 all, Below wc.heap.size wc w2 → Turns (fun k => k = p) w2 w3 → Pushed w3 w4 p bv v2 (stepN st) (stepS s st) n2 all → Turns (LgFoot p bv) w w4 ∧ ∀ k, LgFoot p v2 k → LgFoot p bv k ∨ w.heap.size ≤ k) := fun w2 w3 w4 v2 n2 all g1 g2 g3 => by
        have e1 : Turns (LgFoot p bv) w w2 := ((Turns.of_below HWL.out).then_below HQ.out).then_below g1
        have e2 : Turns (LgFoot p bv) w w3 := e1.trans g2 fun _ _ e => Or.inl e
        refine ⟨e2.trans g3.turns fun _ _ e => e, fun k hk => ?_⟩
        rcases g3.foot k hk with h | h
        · exact .inl h
        · exact .inr (Nat.le_trans e2.size h)
      by_cases hz : st = 0
      · have hd : decide (st = 0) = true := decide_eq_true hz
        have HZ0 := hid_l hz
        rw [hd] at HZP
        unfold opL at HRC
        clear hz hd
        go_upto_region 8 with (first | (go_at_call 21; refine HRC.out.mono ?_; rintro e w2 ⟨g, rfl, hgl, hg, hcs, hb2⟩; have HCS := hid_l hcs; have HB2 := hid_l hb2; have HZ2 := hid_l (HZP.out g w2 hb2); have HGL := hid_l (And.intro hgl hg); clear hgl hg hcs hb2) | (go_at_call 22; refine HZ2.out.mono ?_; rintro e w3 ⟨rfl, h3, ht3, hcs3⟩; have H3 := hid_l h3; have HT3 := hid_l ht3; have HCS3 := hid_l (hcs3 HGL.out.2 (by have := HGL.out.1; have := HPL.out; omega)); clear h3 ht3 hcs3))
        have H3D : Hid (LgIs w3.drew p bv (stepN st) [] (stepS s st)) := H3.out.later (Below.refl _ w3).drew
        have HROW : Hid (w3.drew.ownsRow 0 5 1 (.slice bad B bc) B (recL s.hist ++ [])) := by show World.ownsRow _ _ _ _ _ _ _; have := H3D.out.row; rw [hbv, show (stepS s st).bytes = B from HBE.out] at this; exact this
        have HSRC : Hid (∀ j u, ([Value.int .u8 t] : List Value)[j]? = some u → w3.drew.cell? ((⟨g, 0, none⟩ : Addr).add j) = some u) := fun j u hj => HCS3.out j u (HCS.out j u (by
          match j, hj with
          | 0, hj => exact hj
          | k + 1, hj => simp at hj))
        have HP3 := hid_l (HPUSH.out _ H3D.out)
        have d0 := H3.out.blk.row
        rw [hbv] at d0
        rw [hbv] at HP3
        go_region_law (refine step_append_apart rfl (.tmp 33) (.tmp 35) 45 rfl 0 5 j0 (.int .u8 0) 1 1 Tryd.underlying45 HJ.out.1 HJ.out.2.1 HJ.out.2.2.1 HJ.out.2.2.2 rfl (by decide) (.slice bad B bc) B (recL s.hist ++ []) (by simp [Act.eval]) HROW.out ⟨g, 0, none⟩ 1 3 [.int .u8 t] (by simp [Act.eval]) rfl HSRC.out (fun u hu => by rw [List.mem_singleton.1 hu]; rfl) (by unfold maxLen; omega) (by omega) (Nat.zero_le _) ?_; intro v2 w4 hown4 hgr4 hap4; obtain ⟨k0, k1, hp4⟩ := HP3.out v2 w4 1 _ hown4 hgr4 hap4; obtain ⟨ad4, c4, rfl, -⟩ := own_slice3 hown4; have HP4 := hid_l hp4; clear hp4 hown4 hgr4 hap4)
        all_goals
          go_wp2_with fail
        all_goals
          go_ret
          have hp4 := HP4.out
          rw [← hbv] at hp4
          obtain ⟨f1, f2⟩ := HEND.out _ _ _ _ _ _ HB2.out HT3.out hp4
          exact ⟨6, _, _, _, _, DoR.fails 3 HS.out (by rw [HLL.out]; exact HC.out) (by rw [HW0.out.leftZ]; exact HZ0.out) (by decide) (by decide), rfl, H3D.out.halved HZ0.out HBE.out hp4, f1, f2⟩
      · have hd : decide (st = 0) = false := decide_eq_false hz
        have HZ0 := hid_l hz
        rw [hd] at HZP
        unfold opL at HRC
        clear hz hd
        go_upto_region 10 with (first | (go_at_call 21; refine HRC.out.mono ?_; rintro e w2 ⟨g, rfl, hgl, hg, hcs, hb2⟩; have HCS := hid_l hcs; have HB2 := hid_l hb2; have HZ2 := hid_l (HZP.out g w2 hb2); have HGL := hid_l (And.intro hgl hg); clear hgl hg hcs hb2) | (go_at_call 22; refine HZ2.out.mono ?_; rintro e w3 ⟨rfl, h3, ht3, hcs3⟩; have H3 := hid_l h3; have HT3 := hid_l ht3; have HCS3 := hid_l (hcs3 HGL.out.2 (by have := HGL.out.1; have := HPL.out; omega)); clear h3 ht3 hcs3))
        have HROW : Hid (w3.ownsRow 0 5 1 (.slice bad B bc) B (recL s.hist ++ [])) := by show World.ownsRow _ _ _ _ _ _ _; have := H3.out.row; rw [hbv, show (stepS s st).bytes = B from HBE.out] at this; exact this
        have HSRC : Hid (∀ j u, (recL [(t, a, x)])[j]? = some u → w3.cell? ((⟨g, 0, none⟩ : Addr).add j) = some u) := fun j u hj => HCS3.out j u (HCS.out j u hj)
        have HP3 := hid_l (HPUSH.out _ H3.out)
        have d0 := H3.out.blk.row
        rw [hbv] at d0
        rw [hbv] at HP3
        go_wp2_with (at_builtin; refine wpList_append_apart _ rfl (.tmp 44) (.tmp 45) 45 rfl 0 5 j0 (.int .u8 0) 1 1 Tryd.underlying45 HJ.out.1 HJ.out.2.1 HJ.out.2.2.1 HJ.out.2.2.2 rfl (by decide) (.slice bad B bc) B (recL s.hist ++ []) rfl HROW.out ⟨g, 0, none⟩ 3 3 (recL [(t, a, x)]) rfl rfl HSRC.out (recL_one _) (by unfold maxLen; omega) (by omega) (Nat.zero_le _) ?_; intro v2 w4 hown4 hgr4 hap4; obtain ⟨k0, k1, hp4⟩ := HP3.out v2 w4 3 _ hown4 hgr4 hap4; obtain ⟨ad4, c4, rfl, -⟩ := own_slice3 hown4; have HP4 := hid_l hp4; clear hp4 hown4 hgr4 hap4)
        go_ret
        have hp4 := HP4.out
        rw [← hbv] at hp4
        obtain ⟨f1, f2⟩ := HEND2.out _ _ _ _ _ _ HB2.out HT3.out hp4
        exact ⟨0, _, _, _, _, DoR.does 3 HS.out (by rw [HLL.out]; exact HC.out) (by rw [Ne, HW0.out.leftZ]; exact HZ0.out) (by decide) (by decide), rfl, H3.out.told HZ0.out HBE.out hp4, f1, f2⟩
    · obtain ⟨E, hE⟩ : ∃ E, (chk (l ++ [(t, a, x)])).2 = E := ⟨_, rfl⟩
      have HE := hid_l hE
      have HC := hid_l hc
      rw [hE] at hc ⊢
      have HEN := hid_l (errV_ne hc)
      rw [HEN.out]
      clear hc hE
      go_wp2_with fail
      go_ret
      refine ⟨E, s, bv, st, [], ?_, congrArg Ending.returned HEN.out.symm, HLG.out _ HQ.out, (Turns.of_below HWL.out).then_below HQ.out, fun k hk => .inl hk⟩
      rw [← HE.out, ← HLL.out]
      exact DoR.wrong HS.out (by rw [HLL.out]; exact HC.out)
end
end Go.Proofs.YtggieffpehbfaaaDoor
