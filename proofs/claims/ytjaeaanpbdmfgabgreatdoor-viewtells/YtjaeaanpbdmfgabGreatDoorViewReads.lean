/-
  PROVED HERE: view.Reads gives each Read of what is done and from whom it reads, view.Last who wrote each item last; of a wrong list Check's error. Old memory stays as it was.
  Conditions: none.
-/
import Derived.Test.YtjaeaanpbdmfgabGreatDoorMgas
namespace Go.Proofs.YtjaeaanpbdmfgabGreatDoor
open Go.RowKit Go.Maps

theorem infoSrc : (Tryz.prog.info? 73).map (fun i => (i.zero, i.size, i.bytes)) = some (some (.agg #[.int .i64 0, .int .i64 0]), 2, 16) := by kernel_rfl
theorem one_src (w : World) (t a : Int) : ∀ j u, (flatE [(t, a)])[j]? = some u → (w.alloc (.cells #[.int .i64 t, .int .i64 a] 73)).cell? ((⟨w.heap.size, 0, none⟩ : Addr).add j) = some u := by
  intro j u hj
  match j, hj with
  | 0, hj => simp [flatE] at hj; subst hj; simp [Addr.add]
  | 1, hj => simp [flatE] at hj; subst hj; simp [Addr.add]
  | k + 2, hj => simp [flatE] at hj
theorem one_src2 (w : World) (o : Obj) (t a : Int) : ∀ j u, (flatE [(t, a)])[j]? = some u → ((w.alloc o).alloc (.cells #[.int .i64 t, .int .i64 a] 73)).cell? ((⟨w.heap.size + 1, 0, none⟩ : Addr).add j) = some u := by
  intro j u hj
  have h := one_src (w.alloc o) t a j u hj
  rw [show (w.alloc o).heap.size = w.heap.size + 1 by simp] at h
  exact h
theorem wpList_lookup_nm0 {ops : Array Oper} {rest : List Oper} {o : Oper} {a : Act} {w : World} {Q : Exit → Act → World → Prop} (hg : o.guard = none) (m x : Operand) (hop : o.op = Op.lookup 77 m x false)
    (b n : Nat) (D : DataW Unit) (hm : a.eval m = .map (some b)) (hown : w.ownsMap Tryz.prog 79 nmElem b n D) (key : Value) (kl : Lit) (hx : a.eval x = key) (hkey : keyOf Tryz.prog 79 key = some kl)
    (s : Nm) (hs : D.atKey kl (nmD zN) = nmD s) (hK : wpList Tryz.prog ops Q rest (a.put o.dst (nmV s)) w) : wpList Tryz.prog ops Q (o :: rest) a w := by
  refine wpList_plain hg fun K' hK' => ?_
  obtain ⟨v, ps, hrun, hv⟩ := hown.lookup fLaw Tryz.underlying77 (nm_zero w) (nmElem_mk zN) hkey
  rw [hs] at hv
  rw [nmElem_inv hv] at hrun
  unfold Oper.wp
  simp [execOp, hop, hm, hx, hrun, Result.andThen]
  exact hK' _ _ hK
theorem field_name (p q r s : Int) (W : World) : (Instr.field 79 (.agg #[.int .i64 p, .int .i64 q, .int .i64 r, .int .i64 s]) 0).run Tryz.prog W = .ok (.agg #[.int .i64 p, .int .i64 q, .int .i64 r]) W := by kernel_rfl
theorem field_op (p q r : Int) (W : World) : (Instr.field 37 (.agg #[.int .i64 p, .int .i64 q, .int .i64 r]) 0).run Tryz.prog W = .ok (.int .i64 p) W := by kernel_rfl
theorem vreads_bad (l : List Op3) (v : Value) (w : World) (h : IsOps w v l) (hc : (chk l).2 ≠ 0) :
    Calls Tryz.prog 19 #[v] w fun e w' => e = .returned (.tuple #[.slice none 0 0, .iface 58 (.int .i64 (chk l).2)]) ∧ Below w.heap.size w w' := by
  go_enter Tryz.func19, Tryz.ntmps19
  go_wp2_with (go_at_call 42; refine (dnames_bad l _ _ h hc).mono ?_; rintro e w1 ⟨rfl, hb1⟩)
  go_ret2
  exact ⟨rfl, hb1⟩
theorem names_at {W : World} {ad : Option Addr} {cap : Nat} {d : List Op3} (h : IsNames W (.slice ad d.length cap) (namesTo d d.length)) :
    ∃ b off, ∀ W', Below W.heap.size W W' → ∀ k, k < d.length → ad = some ⟨b, off, none⟩ ∧ W'.cell? ⟨b, off + k * 4, none⟩ = some (.int .i64 (nameAt d k).1.1) ∧ W'.cell? ⟨b, off + k * 4 + 1, none⟩ = some (.int .i64 (nameAt d k).1.2.1) ∧ W'.cell? ⟨b, off + k * 4 + 2, none⟩ = some (.int .i64 (nameAt d k).1.2.2) ∧ W'.cell? ⟨b, off + k * 4 + 3, none⟩ = some (.int .i64 (nameAt d k).2) := by
  obtain ⟨ad', b, off, cap', he, ha, hbB, hat⟩ := h
  simp only [Value.slice.injEq] at he
  obtain ⟨rfl, -, rfl⟩ := he
  refine ⟨b, off, fun W' hW k hk => ?_⟩
  have h1 := (hat.below hW hbB) k (by rw [namesTo_len]; exact hk)
  rw [nmAt_names d _ k hk] at h1
  exact ⟨ha (by rw [namesTo_len]; omega), h1⟩
set_option maxHeartbeats 8000000 in
set_option maxRecDepth 100000 in
theorem vreads_ok (l : List Op3) (v : Value) (w : World) (h : IsOps w v l) (hc : (chk l).2 = 0) :
    Calls Tryz.prog 19 #[v] w fun e w' => ∃ v', e = .returned (.tuple #[v', .nilIface]) ∧ IsEdges w' v' (readsTo (doneL l) (doneL l).length) ∧ Below w.heap.size w w' := by
  have hdn := dnames_ok l v w h hc
  have hcd := chk_done hc
  obtain ⟨d, hd⟩ : ∃ d, doneL l = d := ⟨_, rfl⟩
  rw [hd] at hdn hcd ⊢
  have hl := chk_len hcd
  have HOP : Hid (∀ o ∈ d, isOpB o = true) := chk_ops hcd
  have HDN : Hid (Calls Tryz.prog 42 #[v] w fun e w' => ∃ v', e = .returned (.tuple #[v', .nilIface]) ∧ IsNames w' v' (namesTo d d.length) ∧ Below w.heap.size w w') := hdn
  obtain ⟨i0, hi, hz0, hs0, hy0⟩ := info_parts infoSrc
  have HI : Hid (Tryz.prog.info? 73 = some i0 ∧ i0.zero = some (.agg #[.int .i64 0, .int .i64 0]) ∧ i0.size = 2 ∧ i0.bytes = 16) := ⟨hi, hz0, hs0, hy0⟩
  clear hdn hcd hd h hc hi hz0 hs0 hy0
  go_enter Tryz.func19, Tryz.ntmps19
  go_wp2_with fail
  refine HDN.out.mono ?_
  rintro e w1 ⟨v1, rfl, hN1, hb1⟩
  obtain ⟨ad, cap, rfl⟩ := isNames_len hN1
  have HN1 : Hid (IsNames w1 (.slice ad d.length cap) (namesTo d d.length)) := hN1
  clear hN1
  go_wp2_with fail
  refine (look_any d _ _ HN1.out hl HOP.out).mono ?_
  rintro e w2 ⟨M, D, rfl, hM, hL2, hb2⟩
  have HB2 : Hid (Below w.heap.size w w2) := hb1.trans (hb2.mono hb1.size)
  have HL2 : Hid (Looked w2 M d d.length D) := hL2
  have HN2 : Hid (IsNames w2 (.slice ad d.length cap) (namesTo d d.length)) := HN1.out.below hb2 (Nat.le_refl _)
  have HF2 : Hid ((w2.alloc (.cells zero29 83)).heap[w2.heap.size]? = some (.cells zero29 83 (0, 0))) := heap_alloc_new _ _
  clear hL2 hb1 hb2 hM HN1
  go_upto_region 5 with (first | refine wpList_store_row rfl 83 (.tmp 6) (.tmp 19) rfl w2.heap.size (cells29 M (lastF d d.length)) rfl rfl 83 zero29 HF2.out (sight_info' _ _) (by rw [cells29_size, zero29_size]) (cells29_one _ _) ?_ | fail)
  refine sight_split w2 _ _ _ rfl ?_
  intro W hSW hBW
  have hMl := HL2.out.own.lt
  have HS : Hid (SightAt W w2.heap.size M (lastF d d.length)) := hSW
  have HL : Hid (Looked W M d d.length D) := HL2.out.same (hBW.block _ hMl)
  have HB : Hid (Below w.heap.size w W) := HB2.out.trans (hBW.mono HB2.out.size)
  have hNW := HN2.out.below hBW (Nat.le_refl _)
  obtain ⟨b, off, hcel⟩ := names_at hNW
  have HC : Hid (∀ W', Below W.heap.size W W' → ∀ k, k < d.length → ad = some ⟨b, off, none⟩ ∧ W'.cell? ⟨b, off + k * 4, none⟩ = some (.int .i64 (nameAt d k).1.1) ∧ W'.cell? ⟨b, off + k * 4 + 1, none⟩ = some (.int .i64 (nameAt d k).1.2.1) ∧ W'.cell? ⟨b, off + k * 4 + 2, none⟩ = some (.int .i64 (nameAt d k).1.2.2) ∧ W'.cell? ⟨b, off + k * 4 + 3, none⟩ = some (.int .i64 (nameAt d k).2)) := hcel
  have hSl := HS.out.lt
  have hML := HL.out.own.lt
  clear hcel hNW hSW hBW HF2 HN2 HB2 HL2 hMl
  go_wp2_with fail
  go_loopw [7, 22] (fun v7 v22 wr => ∃ k : Nat, k ≤ d.length ∧ v22 = .int .i64 k ∧ wr.ownsRow W.heap.size 73 2 v7 (readsTo d k).length (flatE (readsTo d k)) ∧ Below W.heap.size W wr) (fun _ v22 _ => d.length - (intOf v22).toNat)
  case atStart => exact ⟨0, Nat.zero_le _, rfl, World.ownsRow_nil _ _ _ _, Below.refl _ _⟩
  case round =>
    obtain ⟨k, hk, rfl, hown, hbel⟩ := hrel
    have hsz := hbel.size
    by_cases hlt : k < d.length
    · have hlt' : (k : Int) < (d.length : Int) := by omega
      obtain ⟨hadr, c0, c1, c2, c3⟩ := HC.out wr hbel k hlt
      subst hadr
      have hsm := small_name hl HOP.out hlt
      obtain ⟨hf1, -⟩ := HL.out.froms (nameAt d k) hsm
      obtain ⟨-, hat⟩ := hf1 k hlt rfl
      have hkey := nm_key _ hsm
      obtain ⟨⟨⟨t, a, x⟩, m⟩, hnm⟩ : ∃ n, nameAt d k = n := ⟨_, rfl⟩
      have ho : opAt d k = (t, a, x) := congrArg Prod.fst hnm
      rw [hnm] at c0 c1 c2 c3 hat hkey
      simp only at c0 c1 c2 c3
      have HKEY : Hid (keyOf Tryz.prog 79 (.agg #[.int .i64 t, .int .i64 a, .int .i64 x, .int .i64 m]) = some (nmL ((t, a, x), m))) := hkey
      obtain ⟨n1, hn1⟩ : ∃ n1, (readsTo d k).length = n1 := ⟨_, rfl⟩
      have hn1b : n1 ≤ 40 := by rw [← hn1]; have := readsTo_len d k; omega
      have HN1 : Hid ((readsTo d k).length = n1) := hn1
      rw [hn1] at hown
      have HOWN : Hid (wr.ownsRow W.heap.size 73 2 u7 n1 (flatE (readsTo d k))) := hown
      have HO : Hid (opAt d k = (t, a, x)) := ho
      clear hnm ho hsm hf1 hkey hown hn1
      by_cases ha1 : a = 1
      · subst ha1
        obtain ⟨⟨⟨s1, s2, s3⟩, sm⟩, hsr⟩ : ∃ n, srcN d k = n := ⟨_, rfl⟩
        rw [hsr] at hat
        have HAT : Hid (D.atKey (nmL ((t, 1, x), m)) (nmD zN) = nmD ((s1, s2, s3), sm)) := hat
        have HRD : Hid (readsTo d (k + 1) = readsTo d k ++ [((k : Int), s1)]) := by
          show readsTo d (k + 1) = readsTo d k ++ [((k : Int), s1)]
          rw [readsTo, HO.out, if_pos rfl]
          have h1 : lastW d k x = ((s1, s2, s3), sm) := by rw [← hsr]; unfold srcN; rw [HO.out, if_pos rfl]
          simp only [h1]
        have HM : Hid (wr.ownsMap Tryz.prog 79 nmElem M d.length D) := (HL.out.same (hbel.block _ hML)).own
        have s0 : wr.cell? ⟨w2.heap.size, 0, none⟩ = some (.map (some M)) := (HS.out.below hbel hSl).map
        have hsl : w2.heap.size < wr.heap.size := by omega
        clear hsr hat
        have hf1 := field_name s1 s2 s3 sm
        have hf2 := field_op s1 s2 s3
        go_wp2_with (first | (at_lookup; refine wpList_lookup_nm0 rfl (.tmp 34) (.tmp 35) rfl M d.length D rfl (HM.out.alloc _) (.agg #[.int .i64 t, .int .i64 1, .int .i64 x, .int .i64 m]) (nmL ((t, 1, x), m)) rfl HKEY.out ((s1, s2, s3), sm) HAT.out ?_; unfold nmV; simp only) | (at_builtin; refine wpList_append_own _ rfl (.tmp 31) (.tmp 40) 45 rfl W.heap.size 73 i0 (.agg #[.int .i64 0, .int .i64 0]) 2 16 Tryz.underlying45 HI.out.1 HI.out.2.1 HI.out.2.2.1 HI.out.2.2.2 rfl (by decide) u7 n1 (flatE (readsTo d k)) rfl ((HOWN.out.alloc _).alloc _) ⟨wr.heap.size + 1, 0, none⟩ 1 1 (flatE [((k : Int), s1)]) rfl rfl (one_src2 wr _ k s1) (flatE_one _) (by unfold maxLen; omega) (by omega) (by simp; omega) ?_; intro v4 w4 hown4 hgr4 hnil4))
        have hB4 := ((hbel.alloc hsz _).alloc (by simp; omega) _).grown hgr4 (by simp; omega) (fun q hq => (HOWN.out.lt q hq).1)
        go_roundw
        case rel => exact ⟨k + 1, by omega, by go_num, by rw [HRD.out, flatE_append, List.length_append, HN1.out]; exact hown4, hB4⟩
        case measure => simp [intOf]; omega
      · have ha1' : (a == 1) = false := by simpa using ha1
        have HRD : Hid (readsTo d (k + 1) = readsTo d k) := by
          show readsTo d (k + 1) = readsTo d k
          rw [readsTo, HO.out, if_neg ha1]
        clear ha1 hat
        go_wp2_with fail
        go_roundw
        case rel => exact ⟨k + 1, by omega, by go_num, by rw [HRD.out, HN1.out]; exact HOWN.out.alloc _, hbel.alloc hsz _⟩
        case measure => simp [intOf]; omega
    · have hlt' : ¬ (k : Int) < (d.length : Int) := by omega
      obtain rfl : k = d.length := by omega
      have HE : Hid (IsEdges wr u7 (readsTo d d.length)) := isEdges_own hown rfl
      clear hown
      go_wp2_with fail
      go_ret2
      exact ⟨_, rfl, HE.out, HB.out.trans (hbel.mono HB.out.size)⟩
end Go.Proofs.YtjaeaanpbdmfgabGreatDoor
