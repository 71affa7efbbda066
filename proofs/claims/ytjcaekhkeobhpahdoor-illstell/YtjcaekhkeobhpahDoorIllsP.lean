/-
  PROVED HERE: package ills' Of keeps what it is asked (IllsOfC). Old memory stays as it was.
  Conditions: none.
-/
import Derived.Test.YtjcaekhkeobhpahDoorIllFn
import Derived.Test.YtjcaekhkeobhpahDoorIllFirst
import Derived.Test.YtjcaekhkeobhpahDoorIllsAsk
namespace Go.Proofs.YtjcaekhkeobhpahDoor
open Go.RowKit

theorem results_pairI {P : Program} {fn : Func} {p q : Tmp} {ty : TypeId} (h : fn.results = #[.cell p ty, .tmp q]) (tmps : Array Value) (w : World) (g : Nat) (t : TypeId) (cs : Array Value) (fr : Nat × Nat) (d : TypeDesc) (v : Value)
    (hp : tmps.getD p undef = .pointer (some ⟨g, 0, none⟩)) (hq : tmps.getD q undef = v) (hg : w.heap[g]? = some (.cells cs t fr))
    (hu : P.underlying ty = some d) (hd : (match d with | .struct _ | .array _ _ => true | _ => false) = true) (hi : (P.info? ty).map (·.size) = some cs.size) :
    (results fn tmps).run P w = .ok (.tuple #[.agg cs, v]) w := by
  have hp' : tmps[p]?.getD undef = .pointer (some ⟨g, 0, none⟩) := by simpa using hp
  have hq' : tmps[q]?.getD undef = v := by simpa using hq
  simp [results, h, hp', hq', asAddr, run_loadVar_row w g t ty cs fr d hg hu hd hi]
/-- Four bools in a block. -/
def IllAt (w : World) (b : Nat) (p q r s : Bool) : Prop := w.heap[b]? = some (.cells #[.bool p, .bool q, .bool r, .bool s] 25 (0, 0))
theorem IllAt.lt {w : World} {b : Nat} {p q r s : Bool} (h : IllAt w b p q r s) : b < w.heap.size := by
  have h' : w.heap[b]? = some _ := h
  exact (Array.getElem?_eq_some_iff.1 h').1
theorem IllAt.below {w w1 : World} {b B : Nat} {p q r s : Bool} (h : IllAt w b p q r s) (hb : Below B w w1) (hB : b < B) : IllAt w1 b p q r s := (hb.block b hB).trans h
theorem IllAt.cells {w : World} {b : Nat} {p q r s : Bool} (h : IllAt w b p q r s) : w.cell? ⟨b, 0, none⟩ = some (.bool p) ∧ w.cell? ⟨b, 1, none⟩ = some (.bool q) ∧ w.cell? ⟨b, 2, none⟩ = some (.bool r) ∧ w.cell? ⟨b, 3, none⟩ = some (.bool s) :=
  ⟨by rw [cell_of_row w b _ _ _ _ h]; rfl, by rw [cell_of_row w b _ _ _ _ h]; rfl, by rw [cell_of_row w b _ _ _ _ h]; rfl, by rw [cell_of_row w b _ _ _ _ h]; rfl⟩
theorem IllAt.thaw {w : World} {b : Nat} {p q r s : Bool} (h : IllAt w b p q r s) (k : Nat) : w.frozen? ⟨b, k, none⟩ = false := by
  have h' : w.heap[b]? = some _ := h
  simp [World.frozen?, h']
theorem IllAt.put {w : World} {b : Nat} {p q r s : Bool} (h : IllAt w b p q r s) (p1 q1 r1 s1 : Bool) : IllAt ((((w.setCell ⟨b, 0, none⟩ (.bool p1)).setCell ⟨b, 1, none⟩ (.bool q1)).setCell ⟨b, 2, none⟩ (.bool r1)).setCell ⟨b, 3, none⟩ (.bool s1)) b p1 q1 r1 s1 := by
  have h' : w.heap[b]? = some (.cells #[.bool p, .bool q, .bool r, .bool s] 25 (0, 0)) := h
  unfold IllAt World.setCell
  simp [Array.getElem?_modify, h']
theorem ill_box (w : World) (p q r s : Bool) : IllAt (w.alloc (.cells #[.bool p, .bool q, .bool r, .bool s] 25)) w.heap.size p q r s := by
  unfold IllAt World.alloc
  simp
theorem ill_info : (Tryd.prog.info? 25).map (·.size) = some 4 := by kernel_rfl
/-- A call of a function value by its contract, as one step of a region that draws. -/
theorem step_callF {P : Program} {ops : Array Oper} {o : Oper} {a : Act} {w : World} {K : Act → World → Prop} {Q : Exit → Act → World → Prop} {E : Prop}
    (hgd : o.guard = none) (f x y : Operand) (T : Array TypeId) (ho : o.op = .call { callee := .value f, args := #[x, y], argTypes := T })
    (N : FuncId) (C : Array Value) (hf : a.eval f = .func (.func N) #[] C) (v1 : Value) (hx : a.eval x = v1) (v2 : Value) (hy : a.eval y = v2) (hent : ∀ args W, (callFunc N args).run P W = .ok (.enter N args) W) (v : Value) (R : World → Prop)
    (hc : Calls P N (#[v1, v2] ++ C) w fun e w' => e = .returned v ∧ R w') (h : ∀ w', R w' → K (a.put o.dst v) w') :
    if Region.wanted o (yielded ops a.tmps) = true then Oper.wp P o a w K Q else E := by
  have hw : Region.wanted o (yielded ops a.tmps) = true := by simp [Region.wanted, hgd]
  rw [if_pos hw]
  have hrun : (execOp a.eval o).run P w = .ok (.enter N (#[v1, v2] ++ C)) w := by
    simp [execOp, ho, resolve, hf, hx, hy, Deferred.ofValue, invoke, hent]
  unfold Oper.wp
  rw [hrun]
  show Calls P N (#[v1, v2] ++ C) w _
  refine hc.mono ?_
  rintro e w' ⟨rfl, hR⟩
  exact h w' hR
set_option maxHeartbeats 8000000 in
theorem iof_bad (l : List Op3) (ad : Option Addr) (cap : Nat) (w : World) (h : IsOps w (.slice ad l.length cap) l) (hc : (chk l).2 ≠ 0) :
    Calls Tryd.prog 8 #[.slice ad l.length cap] w fun e w' => e = .returned (.tuple #[.agg #[.bool false, .bool false, .bool false, .bool false], .iface 59 (.int .i64 (chk l).2)]) ∧ Below w.heap.size w w' := by
  have HOP : Hid (∀ W, Below w.heap.size w W → Calls Tryd.prog 16 #[.slice ad l.length cap] W fun e w' => e = .returned (.tuple #[.slice none 0 0, .iface 59 (.int .i64 (chk l).2)]) ∧ Below W.heap.size W w') := fun W hW => openPairs_bad l _ W (h.below hW (Nat.le_refl _)) hc
  obtain ⟨m, hm⟩ : ∃ m, (chk l).2 = m := ⟨_, rfl⟩
  rw [hm] at HOP ⊢
  clear hm hc h
  go_enter Tryd.func8, Tryd.ntmps8
  go_upto_region 1 with (fail)
  obtain ⟨W, hW⟩ : ∃ W, W = (w.alloc (.cells #[.slice ad l.length cap] 22)).alloc (.cells #[.bool false, .bool false, .bool false, .bool false] 25) := ⟨_, rfl⟩
  have hs1 : (w.alloc (.cells #[.slice ad l.length cap] 22)).heap.size = w.heap.size + 1 := by simp
  have HF : Hid (IllAt W (w.heap.size + 1) false false false false) := by
    show IllAt W _ _ _ _ _
    rw [hW, ← hs1]; exact ill_box _ _ _ _ _
  have p0 : W.cell? ⟨w.heap.size, 0, none⟩ = some (.slice ad l.length cap) := by rw [hW]; simp
  have HBW : Hid (Below w.heap.size w W) := by show Below _ _ _; rw [hW]; exact ((Below.refl _ w).alloc (Nat.le_refl _) _).alloc (by simp) _
  rw [← hW]
  clear hW hs1
  go_wp2_with fail
  refine (HOP.out W HBW.out).mono ?_
  rintro e w1 ⟨rfl, hb1⟩
  have HF1 : Hid (IllAt w1 (w.heap.size + 1) false false false false) := HF.out.below hb1 HF.out.lt
  have HB1 : Hid (Below w.heap.size w w1) := HBW.out.trans (hb1.mono HBW.out.size)
  clear hb1 p0
  go_upto_region 3 with (fail)
  obtain ⟨V, hV⟩ : ∃ V, V = w1.alloc (.cells #[.slice none 0 0] 50) := ⟨_, rfl⟩
  rw [← hV]
  have hbV : Below w1.heap.size w1 V := by rw [hV]; exact (Below.refl _ w1).alloc (Nat.le_refl _) _
  have HF2 : Hid (IllAt V (w.heap.size + 1) false false false false) := HF1.out.below hbV HF1.out.lt
  have HB2 : Hid (Below w.heap.size w V) := HB1.out.trans (hbV.mono HB1.out.size)
  obtain ⟨z0, z1, z2, z3⟩ := HF2.out.cells
  have y0 := HF2.out.thaw 0
  have y1 := HF2.out.thaw 1
  have y2 := HF2.out.thaw 2
  have y3 := HF2.out.thaw 3
  clear hV hbV
  go_wp2_with fail
  refine bodyPost_ret (v := .tuple #[.agg #[.bool false, .bool false, .bool false, .bool false], .iface 59 (.int .i64 m)]) (results_pairI Tryd.results8 _ _ (w.heap.size + 1) 25 #[.bool false, .bool false, .bool false, .bool false] (0, 0) _ _ rfl rfl (HF2.out.put _ _ _ _) Tryd.underlying25 rfl ill_info) rfl ⟨rfl, ?_⟩
  exact (((HB2.out.setCell (by simp) _).setCell (by simp) _).setCell (by simp) _).setCell (by simp) _
set_option maxHeartbeats 16000000 in
set_option maxRecDepth 100000 in
theorem iof_ok (l : List Op3) (ad : Option Addr) (cap : Nat) (w : World) (h : IsOps w (.slice ad l.length cap) l) (hcap : l.length ≤ cap) (hc : (chk l).2 = 0) :
    Calls Tryd.prog 8 #[.slice ad l.length cap] w fun e w' => e = .returned (.tuple #[.agg #[.bool ((openL l).any (kindE l 2 2)), .bool ((openL l).any (kindE l 2 1)), .bool ((openL l).any (kindE l 1 2)), .bool ((openL l).any (lostE l))], .nilIface]) ∧ Below w.heap.size w w' := by
  have hl := chk_len hc
  have HI : Hid (∀ W, Below w.heap.size w W → IsOps W (.slice ad l.length cap) l) := fun W hW => h.below hW (Nat.le_refl _)
  have HOP : Hid (∀ W, Below w.heap.size w W → Calls Tryd.prog 16 #[.slice ad l.length cap] W fun e w' => ∃ v', e = .returned (.tuple #[v', .nilIface]) ∧ IsEdges w' v' (openL l) ∧ Below W.heap.size W w') := fun W hW => openPairs_ok l ad cap W (HI.out W hW) hcap hc
  have HLEN : Hid ((openL l).length ≤ 1600 ∧ l.length ≤ 40 ∧ l.length ≤ cap) := ⟨pairsL_len2 hl, hl, hcap⟩
  have hentc : ∀ (args : Array Value) (W : World), (callFunc 18 args).run Tryd.prog W = .ok (.enter 18 args) W := fun _ _ => by kernel_rfl
  have HENC := hid_e hentc
  have HENH := hid_e call_has
  clear h hc hl hcap hentc
  go_enter Tryd.func8, Tryd.ntmps8
  go_upto_region 1 with (fail)
  obtain ⟨W, hW⟩ : ∃ W, W = (w.alloc (.cells #[.slice ad l.length cap] 22)).alloc (.cells #[.bool false, .bool false, .bool false, .bool false] 25) := ⟨_, rfl⟩
  have hs1 : (w.alloc (.cells #[.slice ad l.length cap] 22)).heap.size = w.heap.size + 1 := by simp
  have HF : Hid (IllAt W (w.heap.size + 1) false false false false) := by
    show IllAt W _ _ _ _ _
    rw [hW, ← hs1]; exact ill_box _ _ _ _ _
  have p0 : W.cell? ⟨w.heap.size, 0, none⟩ = some (.slice ad l.length cap) := by rw [hW]; simp
  have HBW : Hid (Below w.heap.size w W) := by show Below _ _ _; rw [hW]; exact ((Below.refl _ w).alloc (Nat.le_refl _) _).alloc (by simp) _
  have hHW := World.block_lt_of_cell? W _ p0
  simp only at hHW
  rw [← hW]
  clear hW hs1
  go_wp2_with fail
  refine (HOP.out W HBW.out).mono ?_
  rintro e w1 ⟨v, rfl, hE, hb1⟩
  obtain ⟨qad, qcap, rfl⟩ := slice_of hE
  have HE := hid_e hE
  have HW1 := hid_e hb1
  have r0 := (hb1.cell (p := ⟨w.heap.size, 0, none⟩) hHW).trans p0
  have HR0 := hid_e r0
  have HH1 : Hid (w.heap.size < w1.heap.size) := Nat.lt_of_lt_of_le hHW hb1.size
  have HF1 : Hid (IllAt w1 (w.heap.size + 1) false false false false) := HF.out.below hb1 HF.out.lt
  have HB1 : Hid (Below w.heap.size w w1) := HBW.out.trans (hb1.mono HBW.out.size)
  obtain ⟨qn, hqn⟩ : ∃ qn, (openL l).length = qn := ⟨_, rfl⟩
  rw [hqn] at HE ⊢
  clear hE hb1 r0 p0 hHW hqn
  go_upto_region 5 with (fail)
  obtain ⟨V, hV⟩ : ∃ V, V = w1.alloc (.cells #[.slice qad qn qcap] 50) := ⟨_, rfl⟩
  obtain ⟨O, hO⟩ : ∃ O, O = w1.heap.size := ⟨_, rfl⟩
  rw [← hV, ← hO]
  have o0 : V.cell? ⟨O, 0, none⟩ = some (.slice qad qn qcap) := by rw [hV, hO]; simp
  have hOV := World.block_lt_of_cell? V _ o0
  simp only at hOV
  have hbV : Below w1.heap.size w1 V := by rw [hV]; exact (Below.refl _ w1).alloc (Nat.le_refl _) _
  have HFV : Hid (IllAt V (w.heap.size + 1) false false false false) := HF1.out.below hbV HF1.out.lt
  have hFV := HFV.out.lt
  have HBV : Hid (Below w.heap.size w V) := HB1.out.trans (hbV.mono HB1.out.size)
  have HEV : Hid (IsEdges V (.slice qad qn qcap) (openL l)) := HE.out.below hbV (Nat.le_refl _)
  have g0 := (hbV.cell (p := ⟨w.heap.size, 0, none⟩) HH1.out).trans HR0.out
  have HG0 := hid_e g0
  have HHV : Hid (w.heap.size < V.heap.size) := Nat.lt_of_lt_of_le HH1.out hbV.size
  have HO0 := hid_e o0
  have HOV := hid_e hOV
  have HIV : Hid (∀ W', Below V.heap.size V W' → IsOps W' (.slice ad l.length cap) l) := fun W' hW' => HI.out W' (HBV.out.trans (hW'.mono HBV.out.size))
  clear hV hO hbV g0 HF1 HB1 HE HR0 HH1 HW1 HF HBW HI HOP
  obtain ⟨a1, ha1⟩ : ∃ b, (openL l).any (kindE l 2 2) = b := ⟨_, rfl⟩
  obtain ⟨a2, ha2⟩ : ∃ b, (openL l).any (kindE l 2 1) = b := ⟨_, rfl⟩
  obtain ⟨a3, ha3⟩ : ∃ b, (openL l).any (kindE l 1 2) = b := ⟨_, rfl⟩
  obtain ⟨a4, ha4⟩ : ∃ b, (openL l).any (lostE l) = b := ⟨_, rfl⟩
  have HAS : Hid (∀ W', Below V.heap.size V W' → ∀ p q : Int, Calls Tryd.prog 17 (#[.int .i64 p, .int .i64 q] ++ #[.pointer (some ⟨O, 0, none⟩), .pointer (some ⟨w.heap.size, 0, none⟩)]) W' fun e w' => e = .returned (.bool ((openL l).any (kindE l p q))) ∧ Below V.heap.size V w') := fun W' hW' p q =>
    (has_fn l (openL l) (.slice qad qn qcap) ad cap w.heap.size O p q W' (HIV.out W' hW') (HEV.out.below hW' (Nat.le_refl _)) HLEN.out.1 open_in ((hW'.cell (p := ⟨w.heap.size, 0, none⟩) HHV.out).trans HG0.out) ((hW'.cell (p := ⟨O, 0, none⟩) HOV.out).trans HO0.out)).mono fun e w' ⟨h1, h2⟩ => ⟨h1, hW'.trans (h2.mono hW'.size)⟩
  have HC1 : Hid (∀ W', Below V.heap.size V W' → Calls Tryd.prog 17 (#[.int .i64 2, .int .i64 2] ++ #[.pointer (some ⟨O, 0, none⟩), .pointer (some ⟨w.heap.size, 0, none⟩)]) W' fun e w' => e = .returned (.bool a1) ∧ Below V.heap.size V w') := fun W' hW' => by rw [← ha1]; exact HAS.out W' hW' 2 2
  have HC2 : Hid (∀ W', Below V.heap.size V W' → Calls Tryd.prog 17 (#[.int .i64 2, .int .i64 1] ++ #[.pointer (some ⟨O, 0, none⟩), .pointer (some ⟨w.heap.size, 0, none⟩)]) W' fun e w' => e = .returned (.bool a2) ∧ Below V.heap.size V w') := fun W' hW' => by rw [← ha2]; exact HAS.out W' hW' 2 1
  have HC3 : Hid (∀ W', Below V.heap.size V W' → Calls Tryd.prog 17 (#[.int .i64 1, .int .i64 2] ++ #[.pointer (some ⟨O, 0, none⟩), .pointer (some ⟨w.heap.size, 0, none⟩)]) W' fun e w' => e = .returned (.bool a3) ∧ Below V.heap.size V w') := fun W' hW' => by rw [← ha3]; exact HAS.out W' hW' 1 2
  have HC4 : Hid (∀ W', Below V.heap.size V W' → Calls Tryd.prog 18 (#[.slice qad qn qcap, .func (.func 20) #[] #[.pointer (some ⟨w.heap.size, 0, none⟩)]] ++ #[]) W' fun e w' => e = .returned (.bool a4) ∧ Below V.heap.size V w') := fun W' hW' => by
    rw [← ha4]
    refine (contains_edge (openL l) (.slice qad qn qcap) (lostE l) 20 #[.pointer (some ⟨w.heap.size, 0, none⟩)] W' call_lost (HEV.out.below hW' (Nat.le_refl _)) (by have := HLEN.out.1; omega) (fun W2 hW2 e he => ?_)).mono fun e w' ⟨h1, h2⟩ => ⟨h1, hW'.trans (h2.mono hW'.size)⟩
    have hV2 : Below V.heap.size V W2 := hW'.trans (hW2.mono hW'.size)
    obtain ⟨i, j, hij, hj, rfl⟩ := open_in e he
    exact lost2_fn l ad cap i j w.heap.size W2 (HIV.out W2 hV2) HLEN.out.2.2 HLEN.out.2.1 hij hj ((hV2.cell (p := ⟨w.heap.size, 0, none⟩) HHV.out).trans HG0.out)
  have HEQ : Hid ((openL l).any (kindE l 2 2) = a1 ∧ (openL l).any (kindE l 2 1) = a2 ∧ (openL l).any (kindE l 1 2) = a3 ∧ (openL l).any (lostE l) = a4) := ⟨ha1, ha2, ha3, ha4⟩
  have hW0 : Below V.heap.size V V.drew := (Below.refl _ V).drew
  clear ha1 ha2 ha3 ha4 HAS HIV HLEN HHV HG0 HO0 HOV HEV
  go_region_law (first | (refine step_callF rfl (.tmp 17) (.const (.int .i64 2)) (.const (.int .i64 2)) _ rfl 17 #[.pointer (some ⟨O, 0, none⟩), .pointer (some ⟨w.heap.size, 0, none⟩)] (by simp [Act.eval, Act.put]) (.int .i64 2) rfl (.int .i64 2) rfl HENH.out (.bool a1) (fun w' => Below V.heap.size V w') (HC1.out _ (by assumption)) ?_; intro W1 hW1; have l1 := (hW1.cell (p := ⟨O, 0, none⟩) hOV).trans o0) | (refine step_callF rfl (.tmp 19) (.const (.int .i64 2)) (.const (.int .i64 1)) _ rfl 17 #[.pointer (some ⟨O, 0, none⟩), .pointer (some ⟨w.heap.size, 0, none⟩)] (by simp [Act.eval]) (.int .i64 2) rfl (.int .i64 1) rfl HENH.out (.bool a2) (fun w' => Below V.heap.size V w') (HC2.out _ (by assumption)) ?_; intro W2 hW2; have l2 := (hW2.cell (p := ⟨O, 0, none⟩) hOV).trans o0) | (refine step_callF rfl (.tmp 21) (.const (.int .i64 1)) (.const (.int .i64 2)) _ rfl 17 #[.pointer (some ⟨O, 0, none⟩), .pointer (some ⟨w.heap.size, 0, none⟩)] (by simp [Act.eval]) (.int .i64 1) rfl (.int .i64 2) rfl HENH.out (.bool a3) (fun w' => Below V.heap.size V w') (HC3.out _ (by assumption)) ?_; intro W3 hW3; have l3 := (hW3.cell (p := ⟨O, 0, none⟩) hOV).trans o0) | (refine step_callF rfl (.func 18) (.tmp 23) (.tmp 24) _ rfl 18 #[] rfl (.slice qad qn qcap) (by simp [Act.eval]) (.func (.func 20) #[] #[.pointer (some ⟨w.heap.size, 0, none⟩)]) (by simp [Act.eval]) HENC.out (.bool a4) (fun w' => Below V.heap.size V w') (HC4.out _ (by assumption)) ?_; intro W4 hW4; have HF4 := HFV.out.below hW4 hFV; obtain ⟨z0, z1, z2, z3⟩ := HF4.cells; have y0 := HF4.thaw 0; have y1 := HF4.thaw 1; have y2 := HF4.thaw 2; have y3 := HF4.thaw 3))
  all_goals
    go_wp2_with fail
    refine bodyPost_ret (v := .tuple #[.agg #[.bool a1, .bool a2, .bool a3, .bool a4], .nilIface]) (results_pairI Tryd.results8 _ _ (w.heap.size + 1) 25 #[.bool a1, .bool a2, .bool a3, .bool a4] (0, 0) _ _ rfl rfl (HF4.put _ _ _ _) Tryd.underlying25 rfl ill_info) rfl ⟨?_, ?_⟩
    · rw [HEQ.out.1, HEQ.out.2.1, HEQ.out.2.2.1, HEQ.out.2.2.2]
    · exact ((((HBV.out.trans (hW4.mono HBV.out.size)).setCell (by simp) _).setCell (by simp) _).setCell (by simp) _).setCell (by simp) _
theorem illsOfC : IllsOfC := by
  intro l ad cap w h hcap
  by_cases hc : (chk l).2 = 0
  · refine (iof_ok l ad cap w h hcap hc).mono fun e w' ⟨he, hw⟩ => ⟨?_, hw⟩
    have h1 : (openL l).any (kindE l 2 2) = anyTo (illW l) l.length := kind_any hc (.inl rfl)
    have h2 : (openL l).any (kindE l 2 1) = anyTo (illR l) l.length := kind_any hc (.inl rfl)
    have h3 : (openL l).any (kindE l 1 2) = anyTo (illU l) l.length := kind_any hc (.inr rfl)
    have h4 := lost_any hc
    have hU : illsU l = (anyTo (illW l) l.length, anyTo (illR l) l.length, anyTo (illU l) l.length, lostI l l.length) := by unfold illsU illsR; rw [if_neg (by rw [hc]; decide)]
    rw [he, h1, h2, h3, h4, hU, hc]
    rfl
  · refine (iof_bad l ad cap w h hc).mono fun e w' ⟨he, hw⟩ => ⟨?_, hw⟩
    have hU : illsU l = (false, false, false, false) := by unfold illsU; rw [if_pos hc]
    rw [he, hU]
    unfold errV
    rw [if_neg hc]
    rfl
end Go.Proofs.YtjcaekhkeobhpahDoor
