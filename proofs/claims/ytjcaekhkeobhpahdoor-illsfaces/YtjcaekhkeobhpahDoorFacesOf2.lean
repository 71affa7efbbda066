/-
  PROVED HERE: faces.Of tells whether a right list is recoverable, cautious, strict and rigorous, as said op by op. Old memory stays as it was.
  Conditions: the slice is no longer than its capacity.
-/
import Derived.Test.YtjcaekhkeobhpahDoorFacesOf
namespace Go.Proofs.YtjcaekhkeobhpahDoor
open Go.RowKit

theorem heap_new (w : World) (cs : Array Value) (T : TypeId) : (w.alloc (.cells cs T)).heap[w.heap.size]? = some (.cells cs T (0, 0)) := by
  unfold World.alloc
  simp
theorem ends_split {c : Code} {Q : Exit → Act → World → Prop} {a : Act} (w : World) (Z : Array Value) (f : Nat → Int × Int) (hZ : cells14 (fun _ => (0, 0)) = Z) (h : ∀ W, EndsAt W w.heap.size f → Below w.heap.size w W → Code.wp Tryd.prog c Q a W) :
    Code.wp Tryd.prog c Q a ((w.alloc (.cells Z 64)).setRow w.heap.size (cells14 f)) := by
  subst hZ
  exact h _ (setRow_heap _ _ _ _ _ _ (ends_box w _)) (below_setRow ((Below.refl _ w).alloc (Nat.le_refl _) _) (Nat.le_refl _) _)
theorem fstore_func {P : Program} (w : World) (f : Fn) (ts cs : Array Value) (old : Value) (T : TypeId) (n : Nat) (hn : n = w.heap.size) :
    (store ⟨n, 0, none⟩ (.func f ts cs)).run P (w.alloc (.cells #[old] T)) = .ok () (w.alloc (.cells #[.func f ts cs] T)) := by
  subst hn
  rw [run_store _ _ _ _ _ rfl]
  simp [World.setCell_alloc_new]
theorem step_call2 {P : Program} {ops : Array Oper} {o : Oper} {a : Act} {w : World} {K : Act → World → Prop} {Q : Exit → Act → World → Prop} {E : Prop}
    (hgd : o.guard = none) (N : FuncId) (x y : Operand) (T : Array TypeId) (ho : o.op = .call { callee := .value (.func N), args := #[x, y], argTypes := T })
    (v1 : Value) (hx : a.eval x = v1) (v2 : Value) (hy : a.eval y = v2) (hent : ∀ args W, (callFunc N args).run P W = .ok (.enter N args) W) (v : Value) (R : World → Prop)
    (hc : Calls P N #[v1, v2] w fun e w' => e = .returned v ∧ R w') (h : ∀ w', R w' → K (a.put o.dst v) w') :
    if Region.wanted o (yielded ops a.tmps) = true then Oper.wp P o a w K Q else E :=
  step_call hgd N #[x, y] T ho #[v1, v2] (by simp [hx, hy]) hent v R hc h
set_option maxHeartbeats 16000000 in
set_option maxRecDepth 100000 in
theorem fof_ok (l : List Op3) (ad : Option Addr) (cap : Nat) (w : World) (h : IsOps w (.slice ad l.length cap) l) (hcap : l.length ≤ cap) (hc : (chk l).2 = 0) :
    Calls Tryd.prog 11 #[.slice ad l.length cap] w fun e w' => e = .returned (.tuple #[.agg #[.bool (recB l), .bool (cauB l), .bool (strB l), .bool (rigB l)], .nilIface]) ∧ Below w.heap.size w w' := by
  have hl := chk_len hc
  have hop := chk_ops hc
  have hcalm := ((chk_iff l).1 hc).2.2
  have hR1 := rec_lent hcalm hop
  have hR2 := cau_lent hcalm hop
  have hR3 := str_pairs hcalm hop
  have hR4 := rig_pairs hcalm hop
  have hsrc := sTo_src hcalm hop l.length (Nat.le_refl _)
  obtain ⟨f, hf⟩ : ∃ f, endE l l.length = f := ⟨_, rfl⟩
  rw [hf] at hR1 hR2 hR3 hR4 hsrc
  have HI : Hid (∀ W, Below w.heap.size w W → IsOps W (.slice ad l.length cap) l) := fun W hW => h.below hW (Nat.le_refl _)
  have HPO : Hid (∀ W, Below w.heap.size w W → Calls Tryd.prog 23 #[.slice ad l.length cap] W fun e w' => ∃ v', e = .returned (.tuple #[v', .nilIface]) ∧ IsEdges w' v' (pairsL l) ∧ Below W.heap.size W w') := fun W hW => pairs_ok l _ W (HI.out W hW) hc
  have HEO : Hid (∀ W, Below w.heap.size w W → Calls Tryd.prog 24 #[.slice ad l.length cap] W fun e w' => e = .returned (.agg (cells14 f)) ∧ Below W.heap.size W w') := fun W hW => by
    have := endsOf_any l _ W (HI.out W hW) hl hop
    rw [hf] at this
    exact this
  have HSO : Hid (∀ W, Below w.heap.size w W → Calls Tryd.prog 26 #[.slice ad l.length cap, .agg (cells14 f)] W fun e w' => ∃ v', e = .returned v' ∧ w'.ownsRow (W.heap.size + 1) 69 2 v' (srcTo l l.length).length (flatE (srcTo l l.length)) ∧ Below W.heap.size W w') := fun W hW => by
    have := sources_any f l ad cap W (HI.out W hW) hcap hl hop
    rw [hsrc] at this
    exact this
  have HOP : Hid (∀ o ∈ l, isOpB o = true) := hop
  have hents : ∀ (args : Array Value) (W : World), (callFunc 34 args).run Tryd.prog W = .ok (.enter 34 args) W := fun _ _ => by kernel_rfl
  have hente : ∀ (args : Array Value) (W : World), (callFunc 18 args).run Tryd.prog W = .ok (.enter 18 args) W := fun _ _ => by kernel_rfl
  have HENS : Hid (∀ (args : Array Value) (W : World), (callFunc 34 args).run Tryd.prog W = .ok (.enter 34 args) W) := hents
  have HENE : Hid (∀ (args : Array Value) (W : World), (callFunc 18 args).run Tryd.prog W = .ok (.enter 18 args) W) := hente
  have HRES : Hid ((!(lentL l).any (earlyB l f)) = recB l ∧ (!(lentL l).any (dirtyB f)) = cauB l ∧ (!(pairsL l).any (openW l f)) = strB l ∧ (!(pairsL l).any (openE l f)) = rigB l) := ⟨hR1, hR2, hR3, hR4⟩
  have HPL : Hid ((pairsL l).length ≤ 1600) := pairsL_len l hl
  clear h hc hop hcalm hR1 hR2 hR3 hR4 hsrc hf hents hente
  go_enter Tryd.func11, Tryd.ntmps11
  go_upto_region 1 with (fail)
  obtain ⟨W, hW⟩ : ∃ W, W = (w.alloc (.cells #[.slice ad l.length cap] 22)).alloc (.cells #[.bool false, .bool false, .bool false, .bool false] 39) := ⟨_, rfl⟩
  have hs1 : (w.alloc (.cells #[.slice ad l.length cap] 22)).heap.size = w.heap.size + 1 := by simp
  have HF : Hid (FourAt W (w.heap.size + 1) false false false false) := by
    show FourAt W _ _ _ _ _
    rw [hW, ← hs1]; exact four_box _ _ _ _ _
  have p0 : W.cell? ⟨w.heap.size, 0, none⟩ = some (.slice ad l.length cap) := by rw [hW]; exact cell_older _ (cell_first w _ _)
  have HB : Hid (Below w.heap.size w W) := by show Below _ _ _; rw [hW]; exact ((Below.refl _ w).alloc (Nat.le_refl _) _).alloc (by simp) _
  rw [← hW]
  clear hW hs1
  go_wp2_with fail
  refine (HPO.out W HB.out).mono ?_
  rintro e w1 ⟨pv, rfl, hE1, hb1⟩
  obtain ⟨pad, pn, pcap, rfl⟩ : ∃ pad pn pcap, pv = .slice pad pn pcap := by
    obtain ⟨ad, _, _, cap, hv, _⟩ := hE1
    exact ⟨ad, _, cap, hv⟩
  have HE1 : Hid (IsEdges w1 (.slice pad pn pcap) (pairsL l)) := hE1
  have HW1 : Hid (Below W.heap.size W w1) := hb1
  have HB1 : Hid (Below w.heap.size w w1) := HB.out.trans (hb1.mono HB.out.size)
  have hHW : w.heap.size < W.heap.size := World.block_lt_of_cell? W _ p0
  have r0 := (hb1.cell (p := ⟨w.heap.size, 0, none⟩) hHW).trans p0
  clear hE1 hb1
  go_wp2_with fail
  refine (HEO.out w1 HB1.out).mono ?_
  rintro e w2 ⟨rfl, hb2⟩
  have HW2 : Hid (Below W.heap.size W w2) := HW1.out.trans (hb2.mono HW1.out.size)
  have HE2 : Hid (IsEdges w2 (.slice pad pn pcap) (pairsL l)) := HE1.out.below hb2 (Nat.le_refl _)
  have HF2 : Hid ((w2.alloc (.cells (cells14 fun _ => (0, 0)) 64)).heap[w2.heap.size]? = some (.cells (cells14 fun _ => (0, 0)) 64 (0, 0))) := heap_new _ _ _
  clear hb2 r0 HW1 HE1 HB1
  go_upto_region 5 with (first | refine wpList_store_row rfl 64 (.tmp 6) (.tmp 22) rfl w2.heap.size (cells14 f) rfl rfl 64 (cells14 fun _ => (0, 0)) HF2.out (ends_info' _) (by rw [cells14_size, cells14_size]) (cells14_one _) ?_ | fail)
  refine ends_split w2 _ _ rfl ?_
  intro V hEV hBV
  obtain ⟨EB, hEB⟩ : ∃ EB, EB = w2.heap.size := ⟨_, rfl⟩
  rw [← hEB] at hEV ⊢
  have HEV : Hid (EndsAt V EB f) := hEV
  have HWV : Hid (Below W.heap.size W V) := HW2.out.trans (hBV.mono HW2.out.size)
  have HE3 : Hid (IsEdges V (.slice pad pn pcap) (pairsL l)) := HE2.out.below hBV (Nat.le_refl _)
  have v0 := (HWV.out.cell (p := ⟨w.heap.size, 0, none⟩) hHW).trans p0
  clear hEV hBV hEB HW2 HE2 HF2
  go_wp2_with (refine wpList_load_row rfl 64 (.tmp 6) rfl EB rfl 64 (cells14 f) (0, 0) _ HEV.out Tryd.underlying64 rfl (ends_info' _) ?_)
  refine (HSO.out V (HB.out.trans (HWV.out.mono HB.out.size))).mono ?_
  rintro e w3 ⟨sv, rfl, hown3, hb3⟩
  have HOW3 : Hid (w3.ownsRow (V.heap.size + 1) 69 2 sv (srcTo l l.length).length (flatE (srcTo l l.length))) := hown3
  have HV3 : Hid (Below V.heap.size V w3) := hb3
  clear hown3 hb3
  have HGR : Hid (∀ W', w3.grownBy W' sv.ownBlock → Below V.heap.size V W') := fun W' hg => HV3.out.grown hg HV3.out.size (fun q hq => by have := (HOW3.out.lt q hq).1; omega)
  have HDEL : Hid (Calls Tryd.prog 25 #[sv, .func (.func 27) #[] #[.pointer (some ⟨w.heap.size, 0, none⟩)]] w3 fun r w' => ∃ v', r = .returned v' ∧ IsEdges w' v' (lentL l) ∧ w3.grownBy w' sv.ownBlock) := by
    refine delete_src (srcTo l l.length) sv (ownB l) 27 (V.heap.size + 1) #[.pointer (some ⟨w.heap.size, 0, none⟩)] w3 (fun _ _ => by kernel_rfl) HOW3.out (by have := srcTo_len l l.length; omega) (fun W' hg e he => ?_)
    obtain ⟨i, hi, _, rfl⟩ := mem_src.1 he
    have hVW := HGR.out W' hg
    exact own_fn l i (fromI l i) _ w.heap.size W' (HI.out W' (HB.out.trans ((HWV.out.trans (hVW.mono HWV.out.size)).mono HB.out.size))) hi ((hVW.cell (p := ⟨w.heap.size, 0, none⟩) (Nat.lt_of_lt_of_le hHW HWV.out.size)).trans v0)
  go_wp2_with fail
  refine HDEL.out.mono ?_
  rintro e w4 ⟨lv, rfl, hE4, hgr4⟩
  obtain ⟨lad, ln, lcap, rfl⟩ : ∃ lad ln lcap, lv = .slice lad ln lcap := by
    obtain ⟨ad, _, _, cap, hv, _⟩ := hE4
    exact ⟨ad, _, cap, hv⟩
  have HL4 : Hid (IsEdges w4 (.slice lad ln lcap) (lentL l)) := hE4
  have HV4 : Hid (Below V.heap.size V w4) := HGR.out w4 hgr4
  clear hE4 hgr4 HDEL HGR HV3 HOW3 HSO HEO HPO
  go_wp2_with fail
  rw [fstore_func _ _ _ _ _ _ _ (by simp)]
  go_wp2_with fail
  obtain ⟨V5, hV5⟩ : ∃ V5, V5 = w4.alloc (.cells #[.func (.func 31) #[] #[.pointer (some ⟨EB, 0, none⟩), .pointer (some ⟨w.heap.size, 0, none⟩)]] 56) := ⟨_, rfl⟩
  obtain ⟨OB, hOBe⟩ : ∃ OB, OB = w4.heap.size := ⟨_, rfl⟩
  have h45 : Below w4.heap.size w4 V5 := by rw [hV5]; exact (Below.refl _ w4).alloc (Nat.le_refl _) _
  have g45 : V5.cell? ⟨OB, 0, none⟩ = some (.func (.func 31) #[] #[.pointer (some ⟨EB, 0, none⟩), .pointer (some ⟨w.heap.size, 0, none⟩)]) := by rw [hV5, hOBe]; exact cell_first w4 _ _
  have HV5 : Hid (Below V.heap.size V V5) := HV4.out.trans (h45.mono HV4.out.size)
  have HL5 : Hid (IsEdges V5 (.slice lad ln lcap) (lentL l)) := HL4.out.below h45 (Nat.le_refl _)
  have HE5 : Hid (IsEdges V5 (.slice pad pn pcap) (pairsL l)) := HE3.out.below HV5.out (Nat.le_refl _)
  have HEN5 : Hid (EndsAt V5 EB f) := HEV.out.below HV5.out HEV.out.lt
  have HWV5 : Hid (Below W.heap.size W V5) := HWV.out.trans (HV5.out.mono HWV.out.size)
  have HI5 : Hid (∀ W', Below V5.heap.size V5 W' → IsOps W' (.slice ad l.length cap) l) := fun W' hW' => HI.out W' (HB.out.trans ((HWV5.out.trans (hW'.mono HWV5.out.size)).mono HB.out.size))
  have g0 := (HWV5.out.cell (p := ⟨w.heap.size, 0, none⟩) hHW).trans p0
  have hH5 : w.heap.size < V5.heap.size := World.block_lt_of_cell? V5 _ g0
  have hOB : OB < V5.heap.size := World.block_lt_of_cell? V5 _ g45
  have HF5 : Hid (FourAt V5 (w.heap.size + 1) false false false false) := HF.out.below HWV5.out HF.out.lt
  have hF5 : w.heap.size + 1 < V5.heap.size := HF5.out.lt
  have hBV5 : Below w.heap.size w V5 := HB.out.trans (HWV5.out.mono HB.out.size)
  have HBV5 : Hid (Below w.heap.size w V5) := hBV5
  have HLL : Hid ((lentL l).length ≤ 40) := by
    show (lentL l).length ≤ 40
    have h1 := List.length_filter_le (fun s => !ownB l s) (srcTo l l.length)
    have h2 := srcTo_len l l.length
    unfold lentL
    omega
  rw [← hV5, ← hOBe]
  clear hV5 hOBe h45 hBV5 HV4 HL4 HE3 HEV HWV HV5 v0 p0 HF
  obtain ⟨a1, ha1⟩ : ∃ b, (lentL l).any (earlyB l f) = b := ⟨_, rfl⟩
  obtain ⟨a2, ha2⟩ : ∃ b, (lentL l).any (dirtyB f) = b := ⟨_, rfl⟩
  obtain ⟨a3, ha3⟩ : ∃ b, (pairsL l).any (openW l f) = b := ⟨_, rfl⟩
  obtain ⟨a4, ha4⟩ : ∃ b, (pairsL l).any (openE l f) = b := ⟨_, rfl⟩
  have HC1 : Hid (∀ W', Below V5.heap.size V5 W' → Calls Tryd.prog 34 #[.slice lad ln lcap, .func (.func 28) #[] #[.pointer (some ⟨EB, 0, none⟩), .pointer (some ⟨w.heap.size, 0, none⟩)]] W' fun e w' => e = .returned (.bool a1) ∧ Below V5.heap.size V5 w') := fun W' hW' => by
    rw [← ha1]
    refine (contains_src (lentL l) _ (earlyB l f) 28 #[.pointer (some ⟨EB, 0, none⟩), .pointer (some ⟨w.heap.size, 0, none⟩)] W' (fun _ _ => by kernel_rfl) (HL5.out.below hW' (Nat.le_refl _)) (by have h9 := HLL.out; omega) (fun W2 hW2 e he => ?_)).mono fun e w' ⟨h1, h2⟩ => ⟨h1, hW'.trans (h2.mono hW'.size)⟩
    have hV2 : Below V5.heap.size V5 W2 := hW'.trans (hW2.mono hW'.size)
    obtain ⟨i, hi, _, rfl, hf0, _⟩ := mem_lent.1 he
    have hft := from_tx HOP.out hi hf0
    exact early_fn l f i (fromI l i) _ w.heap.size EB W2 (HI5.out W2 hV2) HOP.out hi (by omega) (by omega) ((hV2.cell (p := ⟨w.heap.size, 0, none⟩) hH5).trans g0) (HEN5.out.below hV2 HEN5.out.lt)
  have HC2 : Hid (∀ W', Below V5.heap.size V5 W' → Calls Tryd.prog 34 #[.slice lad ln lcap, .func (.func 30) #[] #[.pointer (some ⟨EB, 0, none⟩)]] W' fun e w' => e = .returned (.bool a2) ∧ Below V5.heap.size V5 w') := fun W' hW' => by
    rw [← ha2]
    refine (contains_src (lentL l) _ (dirtyB f) 30 #[.pointer (some ⟨EB, 0, none⟩)] W' (fun _ _ => by kernel_rfl) (HL5.out.below hW' (Nat.le_refl _)) (by have h9 := HLL.out; omega) (fun W2 hW2 e he => ?_)).mono fun e w' ⟨h1, h2⟩ => ⟨h1, hW'.trans (h2.mono hW'.size)⟩
    have hV2 : Below V5.heap.size V5 W2 := hW'.trans (hW2.mono hW'.size)
    obtain ⟨i, hi, _, rfl, hf0, _⟩ := mem_lent.1 he
    have hft := from_tx HOP.out hi hf0
    exact dirty_fn f i (fromI l i) EB W2 (by omega) (by omega) (HEN5.out.below hV2 HEN5.out.lt)
  have HC3 : Hid (∀ W', Below V5.heap.size V5 W' → Calls Tryd.prog 18 #[.slice pad pn pcap, .func (.func 33) #[] #[.pointer (some ⟨w.heap.size, 0, none⟩), .pointer (some ⟨OB, 0, none⟩)]] W' fun e w' => e = .returned (.bool a3) ∧ Below V5.heap.size V5 w') := fun W' hW' => by
    rw [← ha3]
    refine (contains_edge (pairsL l) _ (openW l f) 33 #[.pointer (some ⟨w.heap.size, 0, none⟩), .pointer (some ⟨OB, 0, none⟩)] W' (fun _ _ => by kernel_rfl) (HE5.out.below hW' (Nat.le_refl _)) (by have h9 := HPL.out; omega) (fun W2 hW2 e he => ?_)).mono fun e w' ⟨h1, h2⟩ => ⟨h1, hW'.trans (h2.mono hW'.size)⟩
    have hV2 : Below V5.heap.size V5 W2 := hW'.trans (hW2.mono hW'.size)
    obtain ⟨i, j, hij, hj, _, rfl⟩ := mem_pairs.1 he
    exact openW_fn l f i j _ w.heap.size EB OB W2 (HI5.out W2 hV2) HOP.out (by omega) ((hV2.cell (p := ⟨w.heap.size, 0, none⟩) hH5).trans g0) (HEN5.out.below hV2 HEN5.out.lt) ((hV2.cell (p := ⟨OB, 0, none⟩) hOB).trans g45)
  have HC4 : Hid (∀ W', Below V5.heap.size V5 W' → Calls Tryd.prog 18 #[.slice pad pn pcap, .func (.func 31) #[] #[.pointer (some ⟨EB, 0, none⟩), .pointer (some ⟨w.heap.size, 0, none⟩)]] W' fun e w' => e = .returned (.bool a4) ∧ Below V5.heap.size V5 w') := fun W' hW' => by
    rw [← ha4]
    refine (contains_edge (pairsL l) _ (openE l f) 31 #[.pointer (some ⟨EB, 0, none⟩), .pointer (some ⟨w.heap.size, 0, none⟩)] W' (fun _ _ => by kernel_rfl) (HE5.out.below hW' (Nat.le_refl _)) (by have h9 := HPL.out; omega) (fun W2 hW2 e he => ?_)).mono fun e w' ⟨h1, h2⟩ => ⟨h1, hW'.trans (h2.mono hW'.size)⟩
    have hV2 : Below V5.heap.size V5 W2 := hW'.trans (hW2.mono hW'.size)
    obtain ⟨i, j, hij, hj, _, rfl⟩ := mem_pairs.1 he
    exact open_fn l f i j _ w.heap.size EB W2 (HI5.out W2 hV2) HOP.out (by omega) ((hV2.cell (p := ⟨w.heap.size, 0, none⟩) hH5).trans g0) (HEN5.out.below hV2 HEN5.out.lt)
  have HEQ : Hid (recB l = !a1 ∧ cauB l = !a2 ∧ strB l = !a3 ∧ rigB l = !a4) := by
    show _ ∧ _ ∧ _ ∧ _
    rw [← ha1, ← ha2, ← ha3, ← ha4]
    exact ⟨HRES.out.1.symm, HRES.out.2.1.symm, HRES.out.2.2.1.symm, HRES.out.2.2.2.symm⟩
  have hW0 : Below V5.heap.size V5 V5.drew := (Below.refl _ V5).drew
  clear ha1 ha2 ha3 ha4 HRES g0 hH5
  go_region_law (first | (refine step_call2 rfl 34 (.tmp 32) (.tmp 33) _ rfl (.slice lad ln lcap) (by simp [Act.eval, Act.put]) (.func (.func 28) #[] #[.pointer (some ⟨EB, 0, none⟩), .pointer (some ⟨w.heap.size, 0, none⟩)]) (by simp [Act.eval, Act.put]) HENS.out (.bool a1) (fun w' => Below V5.heap.size V5 w') (HC1.out _ (by assumption)) ?_; intro W1 hW1; have l1 := (hW1.cell (p := ⟨OB, 0, none⟩) hOB).trans g45) | (refine step_call2 rfl 34 (.tmp 36) (.tmp 37) _ rfl (.slice lad ln lcap) (by simp [Act.eval, Act.put]) (.func (.func 30) #[] #[.pointer (some ⟨EB, 0, none⟩)]) (by simp [Act.eval, Act.put]) HENS.out (.bool a2) (fun w' => Below V5.heap.size V5 w') (HC2.out _ (by assumption)) ?_; intro W2 hW2; have l2 := (hW2.cell (p := ⟨OB, 0, none⟩) hOB).trans g45) | (refine step_call2 rfl 18 (.tmp 40) (.tmp 41) _ rfl (.slice pad pn pcap) (by simp [Act.eval, Act.put]) (.func (.func 33) #[] #[.pointer (some ⟨w.heap.size, 0, none⟩), .pointer (some ⟨OB, 0, none⟩)]) (by simp [Act.eval, Act.put]) HENE.out (.bool a3) (fun w' => Below V5.heap.size V5 w') (HC3.out _ (by assumption)) ?_; intro W3 hW3; have l3 := (hW3.cell (p := ⟨OB, 0, none⟩) hOB).trans g45) | (refine step_call2 rfl 18 (.tmp 44) (.tmp 45) _ rfl (.slice pad pn pcap) (by simp [Act.eval, Act.put]) (.func (.func 31) #[] #[.pointer (some ⟨EB, 0, none⟩), .pointer (some ⟨w.heap.size, 0, none⟩)]) (by simp [Act.eval, Act.put]) HENE.out (.bool a4) (fun w' => Below V5.heap.size V5 w') (HC4.out _ (by assumption)) ?_; intro W4 hW4; have HF4 := HF5.out.below hW4 hF5; obtain ⟨z0, z1, z2, z3⟩ := HF4.cells; have y0 := HF4.thaw 0; have y1 := HF4.thaw 1; have y2 := HF4.thaw 2; have y3 := HF4.thaw 3))
  all_goals
    go_wp2_with fail
    refine bodyPost_ret (v := .tuple #[.agg #[.bool !a1, .bool !a2, .bool !a3, .bool !a4], .nilIface]) (results_pair Tryd.results11 _ _ (w.heap.size + 1) 39 #[.bool !a1, .bool !a2, .bool !a3, .bool !a4] (0, 0) _ _ rfl rfl (HF4.put _ _ _ _) Tryd.underlying39 rfl four_info) rfl ⟨?_, ?_⟩
    · rw [HEQ.out.1, HEQ.out.2.1, HEQ.out.2.2.1, HEQ.out.2.2.2]
    · exact ((((HBV5.out.trans (hW4.mono HBV5.out.size)).setCell (by simp) _).setCell (by simp) _).setCell (by simp) _).setCell (by simp) _
end Go.Proofs.YtjcaekhkeobhpahDoor
