/-
  PROVED HERE: package stamp's book, its methods tell, abort, read, write and come: by one op it goes on as chapter 10, as a function on lists, has it. Memory below the book stays as it was.
  Conditions: the op is one; what is told is short; who is aborted is told among those that were, once.
-/
import Derived.Test.YtjaeaanpbdmfgaeDoorBookMem
import Derived.Test.YtjaeaanpbdmfgaeDoorOps
import Derived.Deep.Cut
import Derived.Laws.Small
namespace Go.Proofs.YtjaeaanpbdmfgaeDoor
open Go.RowKit

theorem hid_b {p : Prop} (h : p) : Hid p := h
theorem zero_intB (w : World) : (zeroValue 3).run Tryd.prog w = .ok (.int .i64 0) w := by kernel_rfl
def opV3 (x : Op3) : Value := .agg #[.int .i64 x.1, .int .i64 x.2.1, .int .i64 x.2.2]
theorem op_newB (w : World) (x : Op3) (t : TypeId) : ∀ j u, (flat [x])[j]? = some u → (w.alloc (.cells #[.int .i64 x.1, .int .i64 x.2.1, .int .i64 x.2.2] t)).cell? ((⟨w.heap.size, 0, none⟩ : Addr).add j) = some u := by
  intro j u hj
  rw [Addr.add_lit]
  obtain ⟨a, b, c⟩ := x
  rcases j with _ | _ | _ | j
  · simpa [flat] using hj
  · simpa [flat] using hj
  · simpa [flat] using hj
  · simp [flat] at hj
set_option maxHeartbeats 4000000 in
set_option maxRecDepth 100000 in
theorem tell_book {w0 w : World} {R A : Nat} {leave : Bool} {s : Stm} {tv : Value} (x : Op3) (h : BookAt w0 w R A leave s tv) (hl : s.told.length ≤ 47) :
    Calls Tryd.prog 65 #[.pointer (some ⟨R, 0, none⟩), opV3 x] w fun e w' => e = .returned (.tuple #[]) ∧ ∃ tv', BookAt w0 w' R A leave { s with told := s.told ++ [x] } tv' := by
  obtain ⟨t, a, i⟩ := x
  obtain ⟨i0, hi, hz0, hs0, hy0⟩ := info_parts infoOp
  have HI : Hid (Tryd.prog.info? 82 = some i0 ∧ i0.zero = some (.agg #[.int .i64 0, .int .i64 0, .int .i64 0]) ∧ i0.size = 3 ∧ i0.bytes = 24) := ⟨hi, hz0, hs0, hy0⟩
  have HL := hid_b h
  unfold opV3
  clear hi hz0 hs0 hy0
  go_enter Tryd.func65, Tryd.ntmps65
  go_upto_region 1 with (fail)
  obtain ⟨W, hW⟩ : ∃ W, W = w.alloc (.cells #[.int .i64 t, .int .i64 a, .int .i64 i] 82) := ⟨_, rfl⟩
  rw [← hW]
  have hbW : Below w.heap.size w W := by rw [hW]; exact (Below.refl _ w).alloc (Nat.le_refl _) _
  have p0 : W.cell? ⟨w.heap.size, 0, none⟩ = some (.int .i64 t) := by rw [hW]; simp
  have p1 : W.cell? ⟨w.heap.size, 1, none⟩ = some (.int .i64 a) := by rw [hW]; simp
  have p2 : W.cell? ⟨w.heap.size, 2, none⟩ = some (.int .i64 i) := by rw [hW]; simp
  obtain ⟨P, hP⟩ : ∃ P, P = w.heap.size := ⟨_, rfl⟩
  rw [← hP] at p0 p1 p2 ⊢
  have hLW := h.later hbW
  have HLW := hid_b hLW
  obtain ⟨ad5, c5, e5, -⟩ := own_slice3 hLW.told
  obtain ⟨n5, hn5⟩ : ∃ n, s.told.length = n := ⟨_, rfl⟩
  rw [hn5] at e5 hl
  have c2 := hLW.c15
  rw [e5] at c2
  have hRW := hLW.lt
  have HSZ : Hid (w0.heap.size ≤ W.heap.size) := hLW.old.size
  have HV : Hid (W.ownsRow w0.heap.size 82 3 (.slice ad5 n5 c5) n5 (flat s.told)) := by show World.ownsRow _ _ _ _ _ _ _; have := hLW.told; rw [e5, hn5] at this; exact this
  have HPT : Hid (∀ v2 w2 (ob : Obj), w2.ownsRow w0.heap.size 82 3 v2 (n5 + 1) (flat s.told ++ flat [(t, a, i)]) → (W.drew.alloc ob).grownBy w2 (Value.slice ad5 n5 c5).ownBlock → (∀ k, v2.ownBlock = some k → (Value.slice ad5 n5 c5).ownBlock = some k ∨ (W.drew.alloc ob).heap.size ≤ k) → w2.cell? ⟨R, 15, none⟩ = some (.slice ad5 n5 c5) ∧ w2.frozen? ⟨R, 15, none⟩ = false ∧ BookAt w0 (w2.setCell ⟨R, 15, none⟩ v2) R A leave { s with told := s.told ++ [(t, a, i)] } v2) := fun v2 w2 ob h1 h2 h3 => HLW.out.tellD e5 hn5 h1 h2 h3
  have hc2 : ∀ ob : Obj, (W.alloc ob).cell? ⟨R, 15, none⟩ = some (.slice ad5 n5 c5) := fun ob => by rw [World.cell?_alloc_lt _ _ ⟨R, 15, none⟩ hRW]; exact c2
  have hPW : P < W.heap.size := World.block_lt_of_cell? W _ p0
  clear hW hbW hP hLW e5 hn5 h
  go_region_law (refine step_append_apart rfl (.tmp 8) (.tmp 10) 50 rfl w0.heap.size 82 i0 (.agg #[.int .i64 0, .int .i64 0, .int .i64 0]) 3 24 Tryd.underlying50 HI.out.1 HI.out.2.1 HI.out.2.2.1 HI.out.2.2.2 rfl (by decide) (.slice ad5 n5 c5) n5 (flat s.told) (by simp [Act.eval]) (HV.out.alloc _) ⟨W.heap.size, 0, none⟩ 1 1 (flat [(t, a, i)]) (by simp [Act.eval]) rfl (op_newB W (t, a, i) _) (flat_one _) (by unfold maxLen; omega) (by omega) (by have := HSZ.out; simp; omega) ?_; intro v2 w2 hown2 hgr2 hap2; obtain ⟨g0, g1, g2⟩ := HPT.out v2 w2 _ hown2 hgr2 hap2; clear hap2 hgr2; obtain ⟨ad6, c6, rfl, -⟩ := own_slice3 hown2; have HK2 := hid_b g2; clear g2 hown2)
  all_goals
    go_wp2_with fail
    go_end0
    exact ⟨rfl, _, HK2.out⟩
set_option maxHeartbeats 4000000 in
set_option maxRecDepth 100000 in
theorem abort_book {w0 w : World} {R A : Nat} {leave : Bool} {s : Stm} {tv : Value} (t : Int) (h : BookAt w0 w R A leave s tv) (hf : FitS s) (ho : s.out t = false) (h1 : 1 ≤ t) (h6 : t ≤ 6) (hl : s.told.length ≤ 47) :
    Calls Tryd.prog 75 #[.pointer (some ⟨R, 0, none⟩), .int .i64 t] w fun e w' => e = .returned (.tuple #[]) ∧ ∃ tv', BookAt w0 w' R A leave (goneS s t) tv' := by
  have hn : t ∉ s.vict := by have := hf.1 t; rw [ho] at this; exact of_decide_eq_false this.symm
  have hno : (victF s.vict t).isSome = false := by rw [victF_some, decide_eq_false hn]
  have c3 := h.c16
  have HL := hid_b h
  have HM := hid_b h.outs
  have HNO := hid_b hno
  have HSN : Hid (∀ y, victF (s.vict ++ [t]) y = setF (victF s.vict) t (some (.int .i64 (s.vict.length : Int))) y) := fun y => victF_snoc hn y
  obtain ⟨m, hm⟩ : ∃ m, s.vict.length = m := ⟨_, rfl⟩
  have HMM := hid_b hm
  rw [hm] at HM HSN
  have HTL := hid_b hl
  clear h hf ho hn hno hm hl
  go_enter Tryd.func75, Tryd.ntmps75
  go_wp2_with (first | (at_len; refine wp_len _ rfl (.tmp 8) 84 rfl 3 Tryd.underlying84 A m (victF s.vict) rfl HM.out ?_) | (at_mapUpdate; refine wp_store _ rfl (.tmp 13) (.tmp 14) (.tmp 15) 84 rfl 3 Tryd.underlying84 A m (victF s.vict) rfl HM.out t (.int .i64 (m : Int)) rfl rfl h1 h6 ?_; intro w2 hm2 ht2))
  have HST : Hid (BookAt w0 w2 R A leave { s with vict := s.vict ++ [t], out := setF s.out t true } tv) := by
    refine HL.out.setOuts ?_ ht2
    rw [HNO.out] at hm2
    have := hm2.congr HSN.out
    rw [List.length_append, HMM.out]
    exact this
  clear hm2 ht2
  refine (tell_book (t, 4, 0) HST.out HTL.out).mono ?_
  rintro e w3 ⟨rfl, tv3, h3⟩
  have H3 := hid_b h3
  clear h3
  go_wp2_with fail
  go_end0
  exact ⟨rfl, tv3, H3.out⟩
/-- A book, and an op in a box of its own. -/
structure BkBox (w0 w : World) (R A : Nat) (leave : Bool) (s : Stm) (tv : Value) (P : Nat) (t a x : Int) : Prop where
  bk : BookAt w0 w R A leave s tv
  p0 : w.cell? ⟨P, 0, none⟩ = some (.int .i64 t)
  p1 : w.cell? ⟨P, 1, none⟩ = some (.int .i64 a)
  p2 : w.cell? ⟨P, 2, none⟩ = some (.int .i64 x)
  ne : P ≠ R
theorem BookAt.box {w0 w : World} {R A : Nat} {leave : Bool} {s : Stm} {tv : Value} (h : BookAt w0 w R A leave s tv) (t a x : Int) (T : TypeId) : BkBox w0 (w.alloc (.cells #[.int .i64 t, .int .i64 a, .int .i64 x] T)) R A leave s tv w.heap.size t a x :=
  ⟨h.later ((Below.refl _ w).alloc (Nat.le_refl _) _), by simp, by simp, by simp, by have := h.lt; omega⟩
theorem BkBox.drewN {w0 w : World} {R A P : Nat} {leave : Bool} {s : Stm} {tv : Value} {t a x : Int} (h : BkBox w0 w R A leave s tv P t a x) (n : Nat) : BkBox w0 (w.drewN n) R A leave s tv P t a x :=
  ⟨h.bk.later (below_drewN (Below.refl _ _) _), h.p0, h.p1, h.p2, h.ne⟩
section
variable {w0 w : World} {R A P : Nat} {leave : Bool} {s : Stm} {tv : Value} {t a x : Int}
theorem BkBox.drew (h : BkBox w0 w R A leave s tv P t a x) : BkBox w0 w.drew R A leave s tv P t a x :=
  ⟨h.bk.later (Below.refl _ w).drew, h.p0, h.p1, h.p2, h.ne⟩
theorem BkBox.lie (h : BkBox w0 w R A leave s tv P t a x) (q k : Nat) (u : Value) : (w.setCell ⟨R, q, none⟩ u).cell? ⟨P, k, none⟩ = w.cell? ⟨P, k, none⟩ := World.cell?_setCell_other _ _ _ _ (by intro he; injection he with he1 _ _; exact h.ne he1.symm)
theorem BkBox.setRd (h : BkBox w0 w R A leave s tv P t a x) {j : Nat} (hj : j < 7) (y : Int) : BkBox w0 (w.setCell ⟨R, 1 + j * 2, none⟩ (.int .i64 y)) R A leave { s with rd := setF s.rd (j : Int) y } tv P t a x :=
  ⟨h.bk.setRd hj y, by rw [h.lie]; exact h.p0, by rw [h.lie]; exact h.p1, by rw [h.lie]; exact h.p2, h.ne⟩
theorem BkBox.setWr (h : BkBox w0 w R A leave s tv P t a x) {j : Nat} (hj : j < 7) (y : Int) : BkBox w0 (w.setCell ⟨R, 1 + j * 2 + 1, none⟩ (.int .i64 y)) R A leave { s with wr := setF s.wr (j : Int) y } tv P t a x :=
  ⟨h.bk.setWr hj y, by rw [h.lie]; exact h.p0, by rw [h.lie]; exact h.p1, by rw [h.lie]; exact h.p2, h.ne⟩
end
set_option maxHeartbeats 8000000 in
set_option maxRecDepth 100000 in
theorem read_book {w0 w : World} {R A : Nat} {leave : Bool} {s : Stm} {tv : Value} (t x : Nat) (h : BookAt w0 w R A leave s tv) (hf : FitS s) (ho : s.out (t : Int) = false) (h1 : 1 ≤ t) (h6 : t ≤ 6) (x1 : 1 ≤ x) (x6 : x ≤ 6) (hl : s.told.length ≤ 46) :
    Calls Tryd.prog 63 #[.pointer (some ⟨R, 0, none⟩), opV3 ((t : Int), 1, (x : Int))] w fun e w' => e = .returned (.tuple #[]) ∧ ∃ tv', BookAt w0 w' R A leave (stepS leave s ((t : Int), 1, (x : Int))) tv' := by
  have HNX0 : Hid (stepS leave s ((t : Int), 1, (x : Int)) = if (t : Int) < s.wr (x : Int) then goneS s (t : Int) else { s with rd := setF s.rd (x : Int) (maxI (s.rd (x : Int)) (t : Int)), told := s.told ++ [((t : Int), 1, (x : Int))] }) := by
    show _ = _
    unfold stepS badS lateS
    rw [if_neg (by rw [ho]; decide)]
    by_cases e : (t : Int) < s.wr (x : Int)
    · simp [e]
    · simp [e]
  have HAB : Hid (∀ W tv', BookAt w0 W R A leave s tv' → Calls Tryd.prog 75 #[.pointer (some ⟨R, 0, none⟩), .int .i64 (t : Int)] W fun e w' => e = .returned (.tuple #[]) ∧ ∃ tv', BookAt w0 w' R A leave (goneS s (t : Int)) tv') := fun W tv' hW => abort_book (t : Int) hW hf ho (by omega) (by omega) (by omega)
  have HTL := hid_b hl
  have hx0 : (0 : Int) ≤ (x : Int) := by omega
  have hxn : ¬ (x : Int) < 0 := by omega
  have hx7 : (x : Int) < 7 := by omega
  have HX : Hid (x < 7) := by show _ < _; omega
  have HBX := hid_b (h.box (t : Int) 1 (x : Int) 82)
  obtain ⟨rx, hrx⟩ : ∃ r, s.rd (x : Int) = r := ⟨_, rfl⟩
  obtain ⟨wx, hwx⟩ : ∃ r, s.wr (x : Int) = r := ⟨_, rfl⟩
  have HRX := hid_b hrx
  have HWX := hid_b hwx
  unfold opV3
  clear hf ho hl h h1 h6 x1 x6 hrx hwx
  go_enter Tryd.func63, Tryd.ntmps63
  go_upto_region 1 with (fail)
  obtain ⟨W, hW⟩ : ∃ W, W = w.alloc (.cells #[.int .i64 (t : Int), .int .i64 1, .int .i64 (x : Int)] 82) := ⟨_, rfl⟩
  obtain ⟨P, hP⟩ : ∃ P, P = w.heap.size := ⟨_, rfl⟩
  rw [← hW, ← hP] at HBX ⊢
  clear hW hP
  obtain ⟨p0, p1, p2⟩ : _ ∧ _ ∧ _ := ⟨HBX.out.p0, HBX.out.p1, HBX.out.p2⟩
  go_quiet (fail)
  replace HBX := hid_b (HBX.out.drewN nq)
  obtain ⟨W2, hQ⟩ : ∃ Z : World, Z = W.drewN nq := ⟨_, rfl⟩
  rw [← hQ] at HBX ⊢
  clear hQ p0 p1 p2
  obtain ⟨p0, p1, p2⟩ : _ ∧ _ ∧ _ := ⟨HBX.out.p0, HBX.out.p1, HBX.out.p2⟩
  have cr : W2.cell? ⟨R, 1 + x * 2, none⟩ = some (.int .i64 rx) := by rw [← HRX.out]; exact HBX.out.bk.cr HX.out
  have cw : W2.cell? ⟨R, 1 + x * 2 + 1, none⟩ = some (.int .i64 wx) := by rw [← HWX.out]; exact HBX.out.bk.cw HX.out
  go_wp2_with fail
  go_quiet (fail)
  replace HBX := hid_b (HBX.out.drewN nq)
  obtain ⟨W3, hQ⟩ : ∃ Z : World, Z = W2.drewN nq := ⟨_, rfl⟩
  rw [← hQ] at HBX ⊢
  clear hQ p0 p1 p2 cr cw
  obtain ⟨p0, p1, p2⟩ : _ ∧ _ ∧ _ := ⟨HBX.out.p0, HBX.out.p1, HBX.out.p2⟩
  by_cases hb : (t : Int) < wx
  · have hbd : decide ((t : Int) < wx) = true := decide_eq_true hb
    have HNX : Hid (stepS leave s ((t : Int), 1, (x : Int)) = goneS s (t : Int)) := by show _ = _; rw [HNX0.out, HWX.out, if_pos hb]
    go_wp2_with fail
    refine (HAB.out _ _ HBX.out.bk).mono ?_
    rintro e w3 ⟨rfl, tv3, h3⟩
    have H3 := hid_b h3
    clear h3
    go_wp2_with fail
    refine bodyPost_ret (results_none Tryd.results63 _ _ _) rfl ⟨rfl, tv3, ?_⟩
    rw [HNX.out]; exact H3.out
  · have hbd : decide ((t : Int) < wx) = false := decide_eq_false hb
    have cr : W3.cell? ⟨R, 1 + x * 2, none⟩ = some (.int .i64 rx) := by rw [← HRX.out]; exact HBX.out.bk.cr HX.out
    have fr : W3.frozen? ⟨R, 1 + x * 2, none⟩ = false := HBX.out.bk.thaw _
    obtain ⟨mx, hmx⟩ : ∃ m, maxI rx (t : Int) = m := ⟨_, rfl⟩
    have hm1 : (if (t : Int) > rx then (t : Int) else rx) = mx := hmx
    have hm2 : (if rx < (t : Int) then (t : Int) else rx) = mx := hmx
    have HNX : Hid (stepS leave s ((t : Int), 1, (x : Int)) = { s with rd := setF s.rd (x : Int) mx, told := s.told ++ [((t : Int), 1, (x : Int))] }) := by show _ = _; rw [HNX0.out, HWX.out, HRX.out, hmx, if_neg hb]
    have HNE := hid_b HBX.out.ne
    clear hmx
    go_upto_region 4 with (fail)
    go_region
    all_goals
      have HB4 := hid_b ((HBX.out.setRd HX.out mx).drew)
      obtain ⟨W4, hQ⟩ : ∃ Z : World, Z = (W3.setCell ⟨R, 1 + x * 2, none⟩ (.int .i64 mx)).drew := ⟨_, rfl⟩
      rw [← hQ] at HB4 ⊢
      clear hQ p0 p1 p2 cr fr hm1 hm2 HBX
      obtain ⟨p0, p1, p2⟩ : _ ∧ _ ∧ _ := ⟨HB4.out.p0, HB4.out.p1, HB4.out.p2⟩
      go_wp2_with fail
      refine (tell_book ((t : Int), 1, (x : Int)) HB4.out.bk (by have := HTL.out; show s.told.length ≤ 47; omega)).mono ?_
      rintro e w5 ⟨rfl, tv5, h5⟩
      have H5 := hid_b h5
      clear h5
      go_wp2_with fail
      go_end0
      refine ⟨rfl, tv5, ?_⟩
      rw [HNX.out]
      exact H5.out
set_option maxHeartbeats 8000000 in
set_option maxRecDepth 100000 in
theorem write_book {w0 w : World} {R A : Nat} {leave : Bool} {s : Stm} {tv : Value} (t x : Nat) (h : BookAt w0 w R A leave s tv) (hf : FitS s) (ho : s.out (t : Int) = false) (h1 : 1 ≤ t) (h6 : t ≤ 6) (x1 : 1 ≤ x) (x6 : x ≤ 6) (hl : s.told.length ≤ 46) :
    Calls Tryd.prog 64 #[.pointer (some ⟨R, 0, none⟩), opV3 ((t : Int), 2, (x : Int))] w fun e w' => e = .returned (.tuple #[]) ∧ ∃ tv', BookAt w0 w' R A leave (stepS leave s ((t : Int), 2, (x : Int))) tv' := by
  have HNX0 : Hid (stepS leave s ((t : Int), 2, (x : Int)) = if (t : Int) < s.rd (x : Int) then goneS s (t : Int) else if (t : Int) < s.wr (x : Int) then (if leave = true then s else goneS s (t : Int)) else { s with wr := setF s.wr (x : Int) (t : Int), told := s.told ++ [((t : Int), 2, (x : Int))] }) := by
    show _ = _
    unfold stepS badS lateS
    rw [if_neg (by rw [ho]; decide)]
    by_cases e : (t : Int) < s.rd (x : Int)
    · simp [e]
    · by_cases e2 : (t : Int) < s.wr (x : Int)
      · cases leave <;> simp [e, e2]
      · simp [e, e2]
  have HAB : Hid (∀ W tv', BookAt w0 W R A leave s tv' → Calls Tryd.prog 75 #[.pointer (some ⟨R, 0, none⟩), .int .i64 (t : Int)] W fun e w' => e = .returned (.tuple #[]) ∧ ∃ tv', BookAt w0 w' R A leave (goneS s (t : Int)) tv') := fun W tv' hW => abort_book (t : Int) hW hf ho (by omega) (by omega) (by omega)
  have HTL := hid_b hl
  have hx0 : (0 : Int) ≤ (x : Int) := by omega
  have hxn : ¬ (x : Int) < 0 := by omega
  have hx7 : (x : Int) < 7 := by omega
  have HX : Hid (x < 7) := by show _ < _; omega
  have HBX := hid_b (h.box (t : Int) 2 (x : Int) 82)
  obtain ⟨rx, hrx⟩ : ∃ r, s.rd (x : Int) = r := ⟨_, rfl⟩
  obtain ⟨wx, hwx⟩ : ∃ r, s.wr (x : Int) = r := ⟨_, rfl⟩
  have HRX := hid_b hrx
  have HWX := hid_b hwx
  unfold opV3
  clear hf ho hl h h1 h6 x1 x6 hrx hwx
  go_enter Tryd.func64, Tryd.ntmps64
  go_upto_region 1 with (fail)
  obtain ⟨W, hW⟩ : ∃ W, W = w.alloc (.cells #[.int .i64 (t : Int), .int .i64 2, .int .i64 (x : Int)] 82) := ⟨_, rfl⟩
  obtain ⟨P, hP⟩ : ∃ P, P = w.heap.size := ⟨_, rfl⟩
  rw [← hW, ← hP] at HBX ⊢
  clear hW hP
  obtain ⟨p0, p1, p2⟩ : _ ∧ _ ∧ _ := ⟨HBX.out.p0, HBX.out.p1, HBX.out.p2⟩
  go_quiet (fail)
  replace HBX := hid_b (HBX.out.drewN nq)
  obtain ⟨W2, hQ⟩ : ∃ Z : World, Z = W.drewN nq := ⟨_, rfl⟩
  rw [← hQ] at HBX ⊢
  clear hQ p0 p1 p2
  obtain ⟨p0, p1, p2⟩ : _ ∧ _ ∧ _ := ⟨HBX.out.p0, HBX.out.p1, HBX.out.p2⟩
  have cr : W2.cell? ⟨R, 1 + x * 2, none⟩ = some (.int .i64 rx) := by rw [← HRX.out]; exact HBX.out.bk.cr HX.out
  go_wp2_with fail
  go_quiet (fail)
  replace HBX := hid_b (HBX.out.drewN nq)
  obtain ⟨W3, hQ⟩ : ∃ Z : World, Z = W2.drewN nq := ⟨_, rfl⟩
  rw [← hQ] at HBX ⊢
  clear hQ p0 p1 p2 cr
  obtain ⟨p0, p1, p2⟩ : _ ∧ _ ∧ _ := ⟨HBX.out.p0, HBX.out.p1, HBX.out.p2⟩
  by_cases hr : (t : Int) < rx
  · have hrd : decide ((t : Int) < rx) = true := decide_eq_true hr
    have HNX : Hid (stepS leave s ((t : Int), 2, (x : Int)) = goneS s (t : Int)) := by show _ = _; rw [HNX0.out, HRX.out, if_pos hr]
    go_wp2_with fail
    refine (HAB.out _ _ HBX.out.bk).mono ?_
    rintro e w3 ⟨rfl, tv3, h3⟩
    have H3 := hid_b h3
    clear h3
    go_wp2_with fail
    go_end0
    refine ⟨rfl, tv3, ?_⟩
    rw [HNX.out]; exact H3.out
  · have hrd : decide ((t : Int) < rx) = false := decide_eq_false hr
    have HRN : Hid (¬ (t : Int) < rx) := hr
    have cw : W3.cell? ⟨R, 1 + x * 2 + 1, none⟩ = some (.int .i64 wx) := by rw [← HWX.out]; exact HBX.out.bk.cw HX.out
    go_wp2_with fail
    go_quiet (fail)
    replace HBX := hid_b (HBX.out.drewN nq)
    obtain ⟨W4, hQ⟩ : ∃ Z : World, Z = W3.drewN nq := ⟨_, rfl⟩
    rw [← hQ] at HBX ⊢
    clear hQ p0 p1 p2 cw
    obtain ⟨p0, p1, p2⟩ : _ ∧ _ ∧ _ := ⟨HBX.out.p0, HBX.out.p1, HBX.out.p2⟩
    by_cases hw : (t : Int) < wx
    · have hwd : decide (wx ≤ (t : Int)) = false := decide_eq_false (by omega)
      have hwn : ¬ wx ≤ (t : Int) := by omega
      have c0 := HBX.out.bk.c0
      cases leave with
      | true =>
        have HNX : Hid (stepS true s ((t : Int), 2, (x : Int)) = s) := by show _ = _; rw [HNX0.out, HRX.out, HWX.out, if_neg (show ¬ (t : Int) < rx by have := HRN.out; omega), if_pos hw, if_pos rfl]
        go_wp2_with fail
        go_end0
        refine ⟨rfl, tv, ?_⟩
        rw [HNX.out]; exact HBX.out.bk
      | false =>
        have HNX : Hid (stepS false s ((t : Int), 2, (x : Int)) = goneS s (t : Int)) := by show _ = _; rw [HNX0.out, HRX.out, HWX.out, if_neg (show ¬ (t : Int) < rx by have := HRN.out; omega), if_pos hw, if_neg (by decide)]
        go_wp2_with fail
        refine (HAB.out _ _ HBX.out.bk).mono ?_
        rintro e w3 ⟨rfl, tv3, h3⟩
        have H3 := hid_b h3
        clear h3
        go_wp2_with fail
        go_end0
        refine ⟨rfl, tv3, ?_⟩
        rw [HNX.out]; exact H3.out
    · have hwd : decide (wx ≤ (t : Int)) = true := decide_eq_true (by omega)
      have hwn : wx ≤ (t : Int) := by omega
      have HNX : Hid (stepS leave s ((t : Int), 2, (x : Int)) = { s with wr := setF s.wr (x : Int) (t : Int), told := s.told ++ [((t : Int), 2, (x : Int))] }) := by show _ = _; rw [HNX0.out, HRX.out, HWX.out, if_neg (show ¬ (t : Int) < rx by have := HRN.out; omega), if_neg hw]
      have cw : W4.cell? ⟨R, 1 + x * 2 + 1, none⟩ = some (.int .i64 wx) := by rw [← HWX.out]; exact HBX.out.bk.cw HX.out
      have fr : W4.frozen? ⟨R, 1 + x * 2 + 1, none⟩ = false := HBX.out.bk.thaw _
      go_upto_region 6 with (fail)
      have HB4 := hid_b (HBX.out.setWr HX.out (t : Int))
      obtain ⟨W5, hQ⟩ : ∃ Z : World, Z = W4.setCell ⟨R, 1 + x * 2 + 1, none⟩ (.int .i64 (t : Int)) := ⟨_, rfl⟩
      rw [← hQ] at HB4 ⊢
      clear hQ p0 p1 p2 cw fr HBX
      obtain ⟨p0, p1, p2⟩ : _ ∧ _ ∧ _ := ⟨HB4.out.p0, HB4.out.p1, HB4.out.p2⟩
      go_wp2_with fail
      refine (tell_book ((t : Int), 2, (x : Int)) HB4.out.bk (by have := HTL.out; show s.told.length ≤ 47; omega)).mono ?_
      rintro e w6 ⟨rfl, tv6, h6⟩
      have H6 := hid_b h6
      clear h6
      go_wp2_with fail
      go_end0
      refine ⟨rfl, tv6, ?_⟩
      rw [HNX.out]
      exact H6.out
set_option maxHeartbeats 8000000 in
set_option maxRecDepth 100000 in
theorem come_book {w0 w : World} {R A : Nat} {leave : Bool} {s : Stm} {tv : Value} (o : Op3) (h : BookAt w0 w R A leave s tv) (hf : FitS s) (hop : isOpB o = true) (hl : s.told.length ≤ 46) :
    Calls Tryd.prog 52 #[.pointer (some ⟨R, 0, none⟩), opV3 o] w fun e w' => e = .returned (.tuple #[]) ∧ ∃ tv', BookAt w0 w' R A leave (stepS leave s o) tv' := by
  obtain ⟨t, a, i⟩ := o
  obtain ⟨h1, h6⟩ := isOp_range hop
  have hkd := isOp_kinds hop
  simp only at h1 h6 hkd
  have hwf : Wf t := wf_deal h1 h6
  have HBX := hid_b (h.box t a i 82)
  have HVS : Hid ((victF s.vict t).isSome = s.out t) := by show _ = _; rw [victF_some, hf.1 t]
  have HVV : Hid (∃ u, (victF s.vict t).getD (.int .i64 0) = .int .i64 u) := by
    show ∃ u, _
    unfold victF
    cases posL s.vict t with
    | none => exact ⟨0, rfl⟩
    | some k => exact ⟨k, rfl⟩
  have HRD : Hid (s.out t = false → a = 1 → ∀ W tv', BookAt w0 W R A leave s tv' → Calls Tryd.prog 63 #[.pointer (some ⟨R, 0, none⟩), .agg #[.int .i64 t, .int .i64 1, .int .i64 i]] W fun e w' => e = .returned (.tuple #[]) ∧ ∃ tv', BookAt w0 w' R A leave (stepS leave s (t, 1, i)) tv') := fun ho ha W tv' hW => by
    subst ha
    have hi1 := isOp_pos hop (.inl rfl)
    have hi6 : i ≤ 6 := by simp [isOpB, endsB] at hop; omega
    obtain ⟨tn, rfl⟩ : ∃ k : Nat, t = k := ⟨t.toNat, by omega⟩
    obtain ⟨xn, rfl⟩ : ∃ k : Nat, i = k := ⟨i.toNat, by simp only at hi1; omega⟩
    exact read_book tn xn hW hf ho (by omega) (by omega) (by simp only at hi1; omega) (by omega) hl
  have HWR : Hid (s.out t = false → a = 2 → ∀ W tv', BookAt w0 W R A leave s tv' → Calls Tryd.prog 64 #[.pointer (some ⟨R, 0, none⟩), .agg #[.int .i64 t, .int .i64 2, .int .i64 i]] W fun e w' => e = .returned (.tuple #[]) ∧ ∃ tv', BookAt w0 w' R A leave (stepS leave s (t, 2, i)) tv') := fun ho ha W tv' hW => by
    subst ha
    have hi1 := isOp_pos hop (.inr rfl)
    have hi6 : i ≤ 6 := by simp [isOpB, endsB] at hop; omega
    obtain ⟨tn, rfl⟩ : ∃ k : Nat, t = k := ⟨t.toNat, by omega⟩
    obtain ⟨xn, rfl⟩ : ∃ k : Nat, i = k := ⟨i.toNat, by simp only at hi1; omega⟩
    exact write_book tn xn hW hf ho (by omega) (by omega) (by simp only at hi1; omega) (by omega) hl
  have HTL := hid_b hl
  unfold opV3
  clear hf hop hl h h1 h6
  go_enter Tryd.func52, Tryd.ntmps52
  go_upto_region 1 with (fail)
  obtain ⟨W, hW⟩ : ∃ W, W = w.alloc (.cells #[.int .i64 t, .int .i64 a, .int .i64 i] 82) := ⟨_, rfl⟩
  obtain ⟨P, hP⟩ : ∃ P, P = w.heap.size := ⟨_, rfl⟩
  rw [← hW, ← hP] at HBX ⊢
  clear hW hP
  obtain ⟨p0, p1, p2⟩ : _ ∧ _ ∧ _ := ⟨HBX.out.p0, HBX.out.p1, HBX.out.p2⟩
  have c16 := HBX.out.bk.c16
  obtain ⟨u, hu⟩ := HVV.out
  have HU := hid_b hu
  obtain ⟨b, hb⟩ : ∃ b, s.out t = b := ⟨_, rfl⟩
  have HVB : Hid ((victF s.vict t).isSome = b) := HVS.out.trans hb
  clear hu
  have hlk : ∀ n, (Instr.lookup 84 (.map (some A)) (.int .i64 t) true).run Tryd.prog (W.drewN n) = .ok (.tuple #[.int .i64 u, .bool b]) (W.drewN n) := fun n => by
    have h1 := (HBX.out.drewN n).bk.outs.look true Tryd.underlying84 (zero_intB _) hwf
    rw [HU.out, HVB.out] at h1
    exact h1
  go_quiet (fail)
  clear hlk c16 p0 p1 p2
  replace HBX := hid_b (HBX.out.drewN nq)
  obtain ⟨W2, hQ⟩ : ∃ Z : World, Z = W.drewN nq := ⟨_, rfl⟩
  rw [← hQ] at HBX ⊢
  clear hQ
  obtain ⟨p0, p1, p2⟩ : _ ∧ _ ∧ _ := ⟨HBX.out.p0, HBX.out.p1, HBX.out.p2⟩
  cases b with
  | true =>
    have HNX : Hid (stepS leave s (t, a, i) = s) := by show _ = _; unfold stepS; rw [if_pos hb]
    clear hb
    go_wp2_with fail
    refine bodyPost_ret (results_none Tryd.results52 _ _ _) rfl ⟨rfl, tv, ?_⟩
    rw [HNX.out]; exact HBX.out.bk
  | false =>
    have HO := hid_b hb
    clear hb
    rcases hkd with rfl | rfl | ⟨h3, hi0⟩
    · go_wp2_with fail
      refine (HRD.out HO.out (by first | rfl | trivial) _ _ HBX.out.bk).mono ?_
      rintro e w3 ⟨rfl, tv3, h3⟩
      have H3 := hid_b h3
      clear h3
      go_wp2_with fail
      go_end0
      exact ⟨rfl, tv3, H3.out⟩
    · go_wp2_with fail
      refine (HWR.out HO.out (by first | rfl | trivial) _ _ HBX.out.bk).mono ?_
      rintro e w3 ⟨rfl, tv3, h3⟩
      have H3 := hid_b h3
      clear h3
      go_wp2_with fail
      go_end0
      exact ⟨rfl, tv3, H3.out⟩
    · have ha1 : ¬ a = 1 := by omega
      have ha2 : ¬ a = 2 := by omega
      have ha1b : (a == 1) = false := by simpa using ha1
      have ha2b : (a == 2) = false := by simpa using ha2
      have HNX : Hid (stepS leave s (t, a, i) = { s with told := s.told ++ [(t, a, i)] }) := by
        show _ = _
        unfold stepS badS
        simp only [if_neg ha1, if_neg ha2]
        rw [if_neg (by rw [HO.out]; decide), if_neg (by decide)]
      clear h3 hi0
      go_wp2_with fail
      refine (tell_book (t, a, i) HBX.out.bk (by have := HTL.out; omega)).mono ?_
      rintro e w3 ⟨rfl, tv3, h3⟩
      have H3 := hid_b h3
      clear h3
      go_wp2_with fail
      go_end0
      refine ⟨rfl, tv3, ?_⟩
      rw [HNX.out]; exact H3.out
end Go.Proofs.YtjaeaanpbdmfgaeDoor
