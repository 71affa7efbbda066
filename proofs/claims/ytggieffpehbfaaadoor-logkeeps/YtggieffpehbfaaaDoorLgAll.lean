/-
  PROVED HERE: package log's record, opOf, All and Values: what the bytes tell.
  Conditions: none.
-/
import Derived.Test.YtggieffpehbfaaaDoorLgSync
import Derived.Test.YtggieffpehbfaaaDoorPlayC
namespace Go.Proofs.YtggieffpehbfaaaDoor
open Go.RowKit

/-- An op whose numbers are bytes. -/
def Tiny (o : Op3) : Prop := (0 ≤ o.1 ∧ o.1 ≤ 6) ∧ (0 ≤ o.2.1 ∧ o.2.1 ≤ 6) ∧ (0 ≤ o.2.2 ∧ o.2.2 ≤ 6)
theorem tiny_op {o : Op3} (h : isOpB o = true) : Tiny o := by
  unfold isOpB at h
  rw [Bool.and_eq_true] at h
  obtain ⟨h1, h2⟩ := h
  simp at h1
  refine ⟨by omega, by omega, ?_⟩
  split at h2
  · have h3 : o.2.2 = 0 := by simpa using h2
    omega
  · rw [Bool.and_eq_true] at h2
    have h3 := of_decide_eq_true h2.1
    have h4 := of_decide_eq_true h2.2
    omega
theorem tiny_all {l : List Op3} (h : (chk l).2 = 0) {o : Op3} (ho : o ∈ l) : Tiny o := tiny_op (((chk_iff l).1 h).2.1 o ho)
theorem rec_new (w : World) (x y z : Int) : ∀ j u, (recL [(x, y, z)])[j]? = some u → (w.alloc (.cells #[.int .u8 x, .int .u8 y, .int .u8 z] 5)).cell? ((⟨w.heap.size, 0, none⟩ : Addr).add j) = some u := by
  intro j u hj
  match j, hj with
  | 0, hj => simp [recL] at hj; subst hj; simp [Addr.add]
  | 1, hj => simp [recL] at hj; subst hj; simp [Addr.add]
  | 2, hj => simp [recL] at hj; subst hj; simp [Addr.add]
  | k + 3, hj => simp [recL] at hj
set_option maxHeartbeats 4000000 in
theorem record_fn (o : Op3) (ho : Tiny o) (w : World) : Calls Tryd.prog 21 #[opL o] w fun e w' => ∃ g, e = .returned (.slice (some ⟨g, 0, none⟩) 3 3) ∧ w.heap.size ≤ g ∧ g < w'.heap.size ∧ (∀ j u, (recL [o])[j]? = some u → w'.cell? ((⟨g, 0, none⟩ : Addr).add j) = some u) ∧ Below w.heap.size w w' := by
  obtain ⟨x, y, z⟩ := o
  obtain ⟨⟨hx0, hx⟩, ⟨hy0, hy⟩, ⟨hz0, hz⟩⟩ := ho
  simp only at hx0 hx hy0 hy hz0 hz
  have ex : IntKind.u8.wrap x = x := by rw [IntKind.wrap_u8]; omega
  have ey : IntKind.u8.wrap y = y := by rw [IntKind.wrap_u8]; omega
  have ez : IntKind.u8.wrap z = z := by rw [IntKind.wrap_u8]; omega
  unfold opL
  go_enter Tryd.func21, Tryd.ntmps21
  go_wp2_with fail
  go_ret
  have hr := rec_new (w.alloc (.cells #[.int .i64 x, .int .i64 y, .int .i64 z] 32)) x y z
  rw [show (w.alloc (.cells #[.int .i64 x, .int .i64 y, .int .i64 z] 32)).heap.size = w.heap.size + 1 by simp] at hr
  refine ⟨_, rfl, ?_, ?_, hr, ?_⟩
  · omega
  · simp
  · exact ((Below.refl _ w).alloc (Nat.le_refl _) _).alloc (by simp) _
set_option maxHeartbeats 4000000 in
theorem opOf_fn (o : Op3) (ho : Tiny o) (g k m c : Nat) (w : World) (hm : 3 ≤ m) (h0 : w.cell? ⟨g, k, none⟩ = some (.int .u8 o.1)) (h1 : w.cell? ⟨g, k + 1, none⟩ = some (.int .u8 o.2.1)) (h2 : w.cell? ⟨g, k + 2, none⟩ = some (.int .u8 o.2.2)) :
    Calls Tryd.prog 24 #[.slice (some ⟨g, k, none⟩) m c] w fun e w' => e = .returned (opL o) ∧ Below w.heap.size w w' := by
  obtain ⟨x, y, z⟩ := o
  obtain ⟨⟨hx0, hx⟩, ⟨hy0, hy⟩, ⟨hz0, hz⟩⟩ := ho
  simp only at hx0 hx hy0 hy hz0 hz h0 h1 h2
  have ex : IntKind.i64.wrap x = x := by rw [IntKind.wrap_i64]; omega
  have ey : IntKind.i64.wrap y = y := by rw [IntKind.wrap_i64]; omega
  have ez : IntKind.i64.wrap z = z := by rw [IntKind.wrap_i64]; omega
  have hg := World.block_lt_of_cell? w _ h0
  have hm0 : ¬ ((m : Int) ≤ 0) := by omega
  have hm1 : ¬ ((m : Int) ≤ 1) := by omega
  have hm2 : ¬ ((m : Int) ≤ 2) := by omega
  have a0 : ∀ ob : Obj, (w.alloc ob).cell? ⟨g, k, none⟩ = some (.int .u8 x) := fun ob => by rw [World.cell?_alloc_lt _ _ ⟨g, k, none⟩ hg]; exact h0
  have a1 : ∀ ob : Obj, (w.alloc ob).cell? ⟨g, k + 1, none⟩ = some (.int .u8 y) := fun ob => by rw [World.cell?_alloc_lt _ _ ⟨g, k + 1, none⟩ hg]; exact h1
  have a2 : ∀ ob : Obj, (w.alloc ob).cell? ⟨g, k + 2, none⟩ = some (.int .u8 z) := fun ob => by rw [World.cell?_alloc_lt _ _ ⟨g, k + 2, none⟩ hg]; exact h2
  unfold opL
  go_enter Tryd.func24, Tryd.ntmps24
  go_wp2_with fail
  go_region
  all_goals
    go_wp2_with fail
    refine bodyPost_ret (v := .agg #[.int .i64 x, .int .i64 y, .int .i64 z]) (by simp [results, Tryd.results24, go_sem]) rfl ⟨rfl, ?_⟩
    exact ((Below.refl _ w).alloc (Nat.le_refl _) _).drew
/-- A row of bytes from its k-th record on. -/
theorem own_from {w : World} {base n k q : Nat} {v : Value} {l : List Op3} {rest : List Value} (h : w.ownsRow base 5 1 v n (recL l ++ rest)) (hk : k < l.length) (hn : l.length * 3 ≤ n) (hq : q = k * 3) :
    ∃ g cap, (∀ W : World, (Instr.sliceAt 45 v (some (.int .i64 (q : Int))) none none).run Tryd.prog W = .ok (.slice (some ⟨g, q, none⟩) (n - q) cap) W) ∧ v.ownBlock = some g ∧
      w.cell? ⟨g, q, none⟩ = some (.int .u8 (l.getD k (0, 0, 0)).1) ∧ w.cell? ⟨g, q + 1, none⟩ = some (.int .u8 (l.getD k (0, 0, 0)).2.1) ∧ w.cell? ⟨g, q + 2, none⟩ = some (.int .u8 (l.getD k (0, 0, 0)).2.2) := by
  subst hq
  have h' := h
  obtain ⟨hl, ⟨hv, hd⟩ | ⟨g, cap, cur, hv, hb, hg, hnc, hm, hsz, htk⟩⟩ := h'
  · omega
  · obtain ⟨r0, r1, r2⟩ := recL_at l k hk
    have hc : ∀ j u, (recL l)[j]? = some u → w.cell? ⟨g, j, none⟩ = some u := fun j u hj => by
      have hj2 : (recL l ++ rest)[j]? = some u := by rw [List.getElem?_append_left (List.getElem?_eq_some_iff.1 hj).1]; exact hj
      have := h.cells (g := g) (by rw [hv]; rfl) j u hj2
      rw [Addr.add_lit, Nat.zero_add] at this
      exact this
    have hlt : k * 3 < cap := by omega
    refine ⟨g, cap - k * 3, fun W => ?_, by rw [hv]; rfl, hc _ _ r0, hc _ _ r1, hc _ _ r2⟩
    obtain ⟨q, hq⟩ : ∃ q, k * 3 = q := ⟨_, rfl⟩
    rw [hq] at hlt ⊢
    rw [hv, run_sliceAt_slice W _ _ _ _ _ elem_u8, run_slice_l W _ _ _ _ elem_u8 _ _ (by omega) (by omega), size_u8]
    have hne : ¬ cap = q := by omega
    simp [Result.andThen, sliced, Addr.add_lit, hne]
section
variable {w : World} {p : Nat} {bv : Value} {st : Int} {rest : List Value} {s : Lg}
set_option maxHeartbeats 8000000 in
theorem all_lg (h : LgIs w p bv st rest s) (hok : LgOk s) : Calls Tryd.prog 14 #[ptL p] w fun e w' => ∃ v', e = .returned v' ∧ w'.ownsRow w.heap.size 32 3 v' s.hist.length (flat s.hist) ∧ Below w.heap.size w w' := by
  obtain ⟨i0, hi, hz0, hs0, hy0⟩ := info_parts infoOp
  have HI := hid_l (show Tryd.prog.info? 32 = some i0 ∧ i0.zero = some (.agg #[.int .i64 0, .int .i64 0, .int .i64 0]) ∧ i0.size = 3 ∧ i0.bytes = 24 from ⟨hi, hz0, hs0, hy0⟩)
  clear hi hz0 hs0 hy0
  have HH := hid_l h
  have hbl := h.bytes
  have hhalf := h.half
  have hl40 := chk40 hok.right
  have HT := hid_l (fun o (ho : o ∈ s.hist) => tiny_all hok.right ho)
  obtain ⟨l, hl⟩ : ∃ l, s.hist = l := ⟨_, rfl⟩
  rw [hl] at hbl hl40 HT ⊢
  have HROW := hid_l h.row
  rw [hl] at HROW
  obtain ⟨B, hB⟩ : ∃ B, s.bytes = B := ⟨_, rfl⟩
  rw [hB] at hbl HROW
  have HC0 : Hid (∀ W, Below w.heap.size w W → W.cell? ⟨p, 0, none⟩ = some bv) := fun W hW => (HH.out.later hW).blk.row
  have HRW : Hid (∀ W, Below w.heap.size w W → W.ownsRow 0 5 1 bv B (recL l ++ rest)) := fun W hW => own_below HROW.out hW (Nat.le_refl _)
  obtain ⟨ad, c, hbv, -⟩ := own_slice3 HROW.out
  rw [hbv] at HC0 HRW
  obtain ⟨n, hn⟩ : ∃ n, l.length = n := ⟨_, rfl⟩
  have HN := hid_l hn
  rw [hn] at hbl hl40
  have HBL := hid_l (show B = n * 3 + rest.length from hbl)
  unfold ptL
  clear h hok hl hB hbv HROW HH hn
  go_enter Tryd.func14, Tryd.ntmps14
  go_wp2_with fail
  go_loopw [3, 4] (fun v3 v4 wr => ∃ k q : Nat, k ≤ n ∧ q = k * 3 ∧ v4 = .int .i64 (q : Int) ∧ wr.ownsRow w.heap.size 32 3 v3 k (flat (l.take k)) ∧ Below w.heap.size w wr) (fun _ v4 _ => n * 3 + 3 - (intOf v4).toNat)
  case atStart => exact ⟨0, 0, by omega, rfl, rfl, World.ownsRow_nil _ _ _ _, Below.refl _ _⟩
  case round =>
    obtain ⟨k, q, hk, hq, rfl, hown, hbel⟩ := hrel
    have HQE := hid_l hq
    have HOWN := hid_l hown
    have HB := hid_l hbel
    have c0 := HC0.out _ hbel
    have hrow := HRW.out _ hbel
    clear hown hbel
    by_cases hlt : k < n
    · have hlt' : (q : Int) + 3 ≤ (B : Int) := by omega
      have hkl : k < l.length := by rw [HN.out]; exact hlt
      obtain ⟨g, cap, hrun, hgb, x0, x1, x2⟩ := own_from hrow hkl (by rw [HN.out]; omega) hq
      obtain ⟨o, ho⟩ : ∃ o, l.getD k (0, 0, 0) = o := ⟨_, rfl⟩
      rw [ho] at x0 x1 x2
      have hom : o ∈ l := by rw [← ho, List.getD_eq_getElem?_getD, List.getElem?_eq_getElem hkl]; exact List.getElem_mem hkl
      have HOP := hid_l (opOf_fn o (HT.out o hom) g q (B - q) cap wr (by omega) x0 x1 x2)
      have HTK : Hid (flat (l.take (k + 1)) = flat (l.take k) ++ flat [o]) := by
        show _ = _
        rw [List.take_add_one, flat_append, List.getElem?_eq_getElem hkl, ← ho, List.getD_eq_getElem?_getD, List.getElem?_eq_getElem hkl]; rfl
      obtain ⟨adv, cv, rfl, -⟩ := own_slice3 HOWN.out
      obtain ⟨x, y, z⟩ := o
      have hsz := HB.out.size
      have HKN := hid_l hlt
      have hq41 : q ≤ 41000 := by omega
      unfold opL at HOP
      clear hrow x0 x1 x2 ho hom hgb hkl hq hbl
      go_wp2_with (first | (go_at_call 24; refine HOP.out.mono ?_; rintro e w2 ⟨rfl, hb2⟩; have HO2 := hid_l (own_below HOWN.out hb2 (Nat.le_refl _)); have HB2 := hid_l (HB.out.trans (hb2.mono hsz)); have hsz2 := HB2.out.size; clear hb2) | (at_builtin; refine wpList_append_own _ rfl (.tmp 15) (.tmp 23) 36 rfl w.heap.size 32 i0 (.agg #[.int .i64 0, .int .i64 0, .int .i64 0]) 3 24 Tryd.underlying36 HI.out.1 HI.out.2.1 HI.out.2.2.1 HI.out.2.2.2 rfl (by decide) (.slice adv k cv) k (flat (l.take k)) rfl (HO2.out.alloc _) ⟨w2.heap.size, 0, none⟩ 1 1 (flat [(x, y, z)]) rfl rfl (one_at w2 x y z) (flat_one _) (by unfold maxLen; omega) (by omega) (by simp; omega) ?_; intro v3 w4 hown3 hgr3 hnil3))
      have hB3 := (HB2.out.alloc hsz2 _).grown hgr3 (by simp; omega) (fun j hj => (HOWN.out.lt j hj).1)
      go_roundw
      case rel => exact ⟨k + 1, q + 3, by omega, by have := HQE.out; omega, by go_num, by rw [HTK.out]; exact hown3, hB3⟩
      case measure => have := HQE.out; simp [intOf]; omega
    · have hlt' : ¬ ((q : Int) + 3 ≤ (B : Int)) := by omega
      have hkn : k = n := by omega
      have HQ : Hid (wr.ownsRow w.heap.size 32 3 u3 l.length (flat l)) := by
        show World.ownsRow _ _ _ _ _ _ _
        have := HOWN.out
        rw [List.take_of_length_le (by rw [HN.out]; omega)] at this
        rw [HN.out, ← hkn]; exact this
      clear hrow
      go_wp2_with fail
      go_ret
      exact ⟨_, rfl, HQ.out, HB.out⟩
set_option maxHeartbeats 4000000 in
theorem values_lg (h : LgIs w p bv st rest s) (hok : LgOk s) : Calls Tryd.prog 8 #[ptL p] w fun e w' => ∃ v', e = .returned v' ∧ IsInts w' v' (valsL (doneL s.hist)) ∧ Below w.heap.size w w' := by
  have HA := hid_l (all_lg h hok)
  have HR := hid_l hok.right
  unfold ptL at HA ⊢
  clear h hok
  go_enter Tryd.func8, Tryd.ntmps8
  go_wp2_with (first | (go_at_call 14; refine HA.out.mono ?_; rintro e w1 ⟨v1, rfl, ho1, hb1⟩; have HB1 := hid_l hb1; have HV := hid_l (values_ok s.hist v1 w1 (isOps_row ho1 rfl) HR.out); clear hb1 ho1) | (go_at_call 18; refine HV.out.mono ?_; rintro e w2 ⟨v2, rfl, hi2, hb2⟩; have HB2 := hid_l (HB1.out.trans (hb2.mono HB1.out.size)); have HI2 := hid_l hi2; clear hb2 hi2))
  go_ret
  exact ⟨v2, rfl, HI2.out, HB2.out⟩
end
end Go.Proofs.YtggieffpehbfaaaDoor
