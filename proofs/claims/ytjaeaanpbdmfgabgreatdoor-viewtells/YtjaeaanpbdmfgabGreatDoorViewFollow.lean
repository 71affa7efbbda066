/-
  PROVED HERE: view.follow goes over names as long as what is told is taken: of each op the Write that it reads; it gives what was written last by then, and whether all was taken. Of the old memory one block alone may turn: that which the closure turns.
  Conditions: what the closure does is a premise.
-/
import Derived.Test.YtjaeaanpbdmfgabGreatDoorViewEq
import Derived.Deep.Cut
namespace Go.Proofs.YtjaeaanpbdmfgabGreatDoor
open Go.RowKit Go.Maps

/-- Of the blocks below a base one alone has turned. -/
structure Save (a B : Nat) (w w' : World) : Prop where
  os : w'.os = w.os
  tape : w'.tape = w.tape
  output : w'.output = w.output
  size : w.heap.size ≤ w'.heap.size
  block : ∀ k, k < B → k ≠ a → w'.heap[k]? = w.heap[k]?
theorem Save.refl (a B : Nat) (w : World) : Save a B w w := ⟨rfl, rfl, rfl, Nat.le_refl _, fun _ _ _ => rfl⟩
theorem Save.trans {a B : Nat} {w w1 w2 : World} (h : Save a B w w1) (k : Save a B w1 w2) : Save a B w w2 :=
  ⟨k.os.trans h.os, k.tape.trans h.tape, k.output.trans h.output, Nat.le_trans h.size k.size, fun j h1 h2 => (k.block j h1 h2).trans (h.block j h1 h2)⟩
theorem Save.mono {a B C : Nat} {w w1 : World} (h : Save a B w w1) (hC : C ≤ B) : Save a C w w1 := ⟨h.os, h.tape, h.output, h.size, fun k h1 h2 => h.block k (by omega) h2⟩
theorem Save.of_below {a B : Nat} {w w1 : World} (h : Below B w w1) : Save a B w w1 := ⟨h.os, h.tape, h.output, h.size, fun k hk _ => h.block k hk⟩
theorem Save.grown {a : Nat} {w w1 : World} (h : Save a w.heap.size w w1) : w.grownBy w1 (some a) := ⟨h.os, h.tape, h.output, h.size, fun k hk hne => h.block k hk (fun e => hne (by rw [e]))⟩
theorem Save.of_grown {a : Nat} {w w1 : World} (h : w.grownBy w1 (some a)) : Save a w.heap.size w w1 := ⟨h.os, h.tape, h.output, h.size, fun k hk hne => h.block k hk (fun e => hne (Option.some.inj e))⟩
theorem Save.below {a B : Nat} {w w1 : World} (h : Save a B w w1) (hs : w1.heap[a]? = w.heap[a]?) : Below B w w1 := ⟨h.os, h.tape, h.output, h.size, fun k hk => by
  by_cases e : k = a
  · rw [e]; exact hs
  · exact h.block k hk e⟩
def lastF (l : List Op3) (k : Nat) : Nat → Nm := fun x => lastW l k (x : Int)
theorem lastF_write {l : List Op3} {k : Nat} {x : Int} (h1 : (opAt l k).2.1 = 2) (h2 : (opAt l k).2.2 = x) (hx : 0 ≤ x) : lastF l (k + 1) = setW (lastF l k) x.toNat (nameAt l k) := by
  funext y
  unfold lastF setW
  by_cases e : y = x.toNat
  · rw [if_pos e, lastW_hit h1 (by rw [h2]; omega)]
  · rw [if_neg e, lastW_pass (by rw [h2]; omega)]
theorem lastF_pass {l : List Op3} {k : Nat} (h : (opAt l k).2.1 ≠ 2) : lastF l (k + 1) = lastF l k := by
  funext y
  unfold lastF
  rw [lastW_pass fun hh => h hh.1]
theorem wrTo_lt {l : List Op3} {k j : Nat} {x : Int} (h : wrTo l x k = some j) : j < k := (wrTo_some h).1
theorem small_zN : Small zN := ⟨wf_small (by decide) (by decide), wf_small (by decide) (by decide), wf_small (by decide) (by decide), wf_small (by decide) (by decide)⟩
theorem small_last {l : List Op3} {k : Nat} (hl : l.length ≤ 40) (hop : ∀ o ∈ l, isOpB o = true) (hk : k ≤ l.length) (x : Int) : Small (lastW l k x) := by
  cases h : wrTo l x k with
  | none => rw [lastW_none h]; exact small_zN
  | some j => rw [lastW_some h]; exact small_name hl hop (by have := wrTo_lt h; omega)
theorem small_src {l : List Op3} {k : Nat} (hl : l.length ≤ 40) (hop : ∀ o ∈ l, isOpB o = true) (hk : k ≤ l.length) : Small (srcN l k) := by
  unfold srcN
  split
  · exact small_last hl hop hk _
  · exact small_zN
theorem row_other {w : World} {g k : Nat} {cs : Array Value} (h : k ≠ g) : (w.setRow g cs).heap[k]? = w.heap[k]? := by
  unfold World.setRow
  simp [Array.getElem?_modify, h.symm]
theorem Save.setRow {a B : Nat} {w w1 : World} {cs : Array Value} (h : Save a B w w1) : Save a B w (w1.setRow B cs) := ⟨h.os, h.tape, h.output, by simpa [World.setRow] using h.size, fun k h1 h2 => (row_other (by omega)).trans (h.block k h1 h2)⟩
theorem results_two {P : Program} {fn : Func} {p q : Tmp} {ty : TypeId} (h : fn.results = #[.cell p ty, .tmp q]) (tmps : Array Value) (w : World) (g : Nat) (t : TypeId) (cs : Array Value) (fr : Nat × Nat) (d : TypeDesc) (v : Value)
    (hp : tmps.getD p undef = .pointer (some ⟨g, 0, none⟩)) (hq : tmps.getD q undef = v) (hg : w.heap[g]? = some (.cells cs t fr))
    (hu : P.underlying ty = some d) (hd : (match d with | .struct _ | .array _ _ => true | _ => false) = true) (hi : (P.info? ty).map (·.size) = some cs.size) :
    (results fn tmps).run P w = .ok (.tuple #[.agg cs, v]) w := by
  have hp' : tmps[p]?.getD undef = .pointer (some ⟨g, 0, none⟩) := by simpa using hp
  have hq' : tmps[q]?.getD undef = v := by simpa using hq
  simp [results, h, hp', hq', asAddr, run_loadVar_row w g t ty cs fr d hg hu hd hi]

set_option maxHeartbeats 8000000 in
set_option maxRecDepth 100000 in
theorem follow_any (l : List Op3) (nv cap : Value) (N M : Nat) (es : Array MapEntry) (clock : Nat) (w : World) (Inv : Nat → World → Prop) (ok : Nat → Bool)
    (hcall : ∀ (args : Array Value) (W : World), (callFunc N args).run Tryz.prog W = .ok (.enter N args) W)
    (hN : IsNames w nv (namesTo l l.length)) (hl : l.length ≤ 40) (hop : ∀ o ∈ l, isOpB o = true) (hM : w.heap[M]? = some (.map es clock)) (h0 : Inv 0 w)
    (hkeep : ∀ k W W', Inv k W → W'.heap[M]? = W.heap[M]? → Inv k W')
    (hstep : ∀ k, k < l.length → ∀ W, Inv k W → Save M w.heap.size w W → Calls Tryz.prog N #[nmV (nameAt l k), nmV (srcN l k), cap] W fun e W' => e = .returned (.bool (ok k)) ∧ Inv (if ok k = true then k + 1 else k) W' ∧ Save M W.heap.size W W') :
    Calls Tryz.prog 73 #[nv, .func (.func N) #[] #[cap]] w fun e w' => ∃ k, k ≤ l.length ∧ (∀ j, j < k → ok j = true) ∧ (k < l.length → ok k = false) ∧ e = .returned (.tuple #[.agg (cells28 (lastF l k)), .bool (decide (k = l.length))]) ∧ Inv k w' ∧ Save M w.heap.size w w' := by
  obtain ⟨ad, b, off, cp, rfl, hcel⟩ := names_cells hN hM (namesTo_len l l.length)
  have HC : Hid (∀ W, Save M w.heap.size w W → ∀ k, k < l.length → ad = some ⟨b, off, none⟩ ∧ W.cell? ⟨b, off + k * 4, none⟩ = some (.int .i64 (nameAt l k).1.1) ∧ W.cell? ⟨b, off + k * 4 + 1, none⟩ = some (.int .i64 (nameAt l k).1.2.1) ∧ W.cell? ⟨b, off + k * 4 + 2, none⟩ = some (.int .i64 (nameAt l k).1.2.2) ∧ W.cell? ⟨b, off + k * 4 + 3, none⟩ = some (.int .i64 (nameAt l k).2)) := fun W hW k hk => by
    have := hcel W hW.grown k hk
    rw [nmAt_names l _ k hk] at this
    exact this
  have hMl : M < w.heap.size := (Array.getElem?_eq_some_iff.1 hM).1
  have HOP : Hid (∀ o ∈ l, isOpB o = true) := hop
  have HST : Hid (∀ k, k < l.length → ∀ W, Inv k W → Save M w.heap.size w W → Calls Tryz.prog N #[nmV (nameAt l k), nmV (srcN l k), cap] W fun e W' => e = .returned (.bool (ok k)) ∧ Inv (if ok k = true then k + 1 else k) W' ∧ Save M W.heap.size W W') := hstep
  have HKP : Hid (∀ k W W', Inv k W → W'.heap[M]? = W.heap[M]? → Inv k W') := hkeep
  have H0 : Hid (Inv 0 w) := h0
  clear hcel hN hM hop hstep hkeep h0
  go_enter Tryz.func73, Tryz.ntmps73
  go_wp2_with fail
  go_loopw [12] (fun v12 wr => ∃ k : Nat, k ≤ l.length ∧ v12 = .int .i64 k ∧ (∀ j, j < k → ok j = true) ∧ Inv k wr ∧ LastAt wr (w.heap.size + 1) (lastF l k) ∧ LastAt wr w.heap.size (fun _ => zN) ∧ Save M w.heap.size w wr) (fun v12 _ => l.length - (intOf v12).toNat)
  case atStart =>
    refine ⟨0, Nat.zero_le _, rfl, fun j hj => absurd hj (by omega), HKP.out 0 w _ H0.out ((((Below.refl _ w).alloc (Nat.le_refl _) _).alloc (by simp) _).block M hMl), ?_, (last_fresh w _ rfl).alloc _, Save.of_below (((Below.refl _ w).alloc (Nat.le_refl _) _).alloc (by simp) _)⟩
    have h1 := last_fresh (w.alloc (.cells (cells28 fun _ => zN) 81)) _ rfl
    rw [show (w.alloc (.cells (cells28 fun _ => zN) 81)).heap.size = w.heap.size + 1 by simp] at h1
    exact h1
  case round =>
    obtain ⟨k, hk, rfl, hall, hinv, hla, hze, hsv⟩ := hrel
    have HALL : Hid (∀ j, j < k → ok j = true) := hall
    have HINV : Hid (Inv k wr) := hinv
    have HLA : Hid (LastAt wr (w.heap.size + 1) (lastF l k)) := hla
    have HZE : Hid (LastAt wr w.heap.size (fun _ => zN)) := hze
    have HSV : Hid (Save M w.heap.size w wr) := hsv
    have hsz := hla.lt
    clear hall hinv hla hze hsv
    by_cases hlt : k < l.length
    · have hlt' : (k : Int) < (l.length : Int) := by omega
      obtain ⟨rfl, c0, c1, c2, c3⟩ := HC.out wr HSV.out k hlt
      obtain ⟨⟨⟨t, a, x⟩, m⟩, hnm⟩ : ∃ n, nameAt l k = n := ⟨_, rfl⟩
      have ho : opAt l k = (t, a, x) := congrArg Prod.fst hnm
      have hisop := HOP.out _ (opAt_mem hlt)
      rw [ho] at hisop
      have HNM : Hid (nameAt l k = ((t, a, x), m)) := hnm
      have HO : Hid (opAt l k = (t, a, x)) := ho
      have HIS : Hid (isOpB (t, a, x) = true) := hisop
      rw [hnm] at c0 c1 c2 c3
      simp only at c0 c1 c2 c3
      clear hnm ho hisop
      go_upto_region 6 with (fail)
      obtain ⟨W, hW⟩ : ∃ W, W = (wr.alloc (.cells #[.int .i64 t, .int .i64 a, .int .i64 x, .int .i64 m] 79)).alloc (.cells #[.int .i64 0, .int .i64 0, .int .i64 0, .int .i64 0] 79) := ⟨_, rfl⟩
      rw [← hW]
      obtain ⟨P, hP⟩ : ∃ P, P = wr.heap.size := ⟨_, rfl⟩
      obtain ⟨R, hR⟩ : ∃ R, R = wr.heap.size + 1 := ⟨_, rfl⟩
      rw [← hR, ← hP]
      have p0 : W.cell? ⟨P, 0, none⟩ = some (.int .i64 t) := by rw [hW, hP]; simp
      have p1 : W.cell? ⟨P, 1, none⟩ = some (.int .i64 a) := by rw [hW, hP]; simp
      have p2 : W.cell? ⟨P, 2, none⟩ = some (.int .i64 x) := by rw [hW, hP]; simp
      have p3 : W.cell? ⟨P, 3, none⟩ = some (.int .i64 m) := by rw [hW, hP]; simp
      have q0 : W.cell? ⟨R, 0, none⟩ = some (.int .i64 0) := by rw [hW, hR]; simp
      have q1 : W.cell? ⟨R, 1, none⟩ = some (.int .i64 0) := by rw [hW, hR]; simp
      have q2 : W.cell? ⟨R, 2, none⟩ = some (.int .i64 0) := by rw [hW, hR]; simp
      have q3 : W.cell? ⟨R, 3, none⟩ = some (.int .i64 0) := by rw [hW, hR]; simp
      have z0 : W.frozen? ⟨R, 0, none⟩ = false := by rw [hW, hR]; simp
      have z1 : W.frozen? ⟨R, 1, none⟩ = false := by rw [hW, hR]; simp
      have z2 : W.frozen? ⟨R, 2, none⟩ = false := by rw [hW, hR]; simp
      have z3 : W.frozen? ⟨R, 3, none⟩ = false := by rw [hW, hR]; simp
      have hbw : Below wr.heap.size wr W := by rw [hW]; exact ((Below.refl _ wr).alloc (Nat.le_refl _) _).alloc (by simp) _
      have hsR : R < W.heap.size := by rw [hW, hR]; simp
      have HLW : Hid (LastAt W (w.heap.size + 1) (lastF l k)) := HLA.out.below hbw hsz
      have HZW : Hid (LastAt W w.heap.size (fun _ => zN)) := HZE.out.below hbw (by omega)
      have HIW : Hid (Inv k W) := HKP.out k wr W HINV.out (hbw.block M (by omega))
      have HSW : Hid (Save M w.heap.size w W) := HSV.out.trans (Save.of_below (hbw.mono (by omega)))
      have hPR : P < R := by omega
      have hPB : w.heap.size + 1 < P := by omega
      clear hW hP hR hbw HLA HZE HINV HSV c0 c1 c2 c3 hsz
      have hne : ¬ R = P := by omega
      have hne' : ¬ P = R := by omega
      by_cases ha1 : a = 1
      · subst ha1
        obtain ⟨hx1, hx6⟩ := isOp_item HIS.out (.inl rfl)
        simp only at hx1 hx6
        have hx7 : x < 7 := by omega
        have hx0 : 0 ≤ x := by omega
        obtain ⟨⟨⟨s1, s2, s3⟩, sm⟩, hsrc⟩ : ∃ n, lastF l k x.toNat = n := ⟨_, rfl⟩
        obtain ⟨d0, d1, d2, d3⟩ := HLW.out.cells (x := x.toNat) (by omega) hsrc
        have HSRC : Hid (srcN l k = ((s1, s2, s3), sm)) := by
          show srcN l k = ((s1, s2, s3), sm)
          rw [← hsrc]
          unfold srcN lastF
          rw [HO.out, if_pos rfl, show ((x.toNat : Nat) : Int) = x by omega]
        clear hsrc
        go_wp2_with fail
        obtain ⟨V, hV⟩ : ∃ V, V = (((W.setCell ⟨R, 0, none⟩ (.int .i64 s1)).setCell ⟨R, 1, none⟩ (.int .i64 s2)).setCell ⟨R, 2, none⟩ (.int .i64 s3)).setCell ⟨R, 3, none⟩ (.int .i64 sm) := ⟨_, rfl⟩
        rw [← hV]
        have hbV : Below R W V := by rw [hV]; exact ((((Below.refl R W).setCell (Nat.le_refl _) _).setCell (Nat.le_refl _) _).setCell (Nat.le_refl _) _).setCell (Nat.le_refl _) _
        have HLV : Hid (LastAt V (w.heap.size + 1) (lastF l k)) := HLW.out.below hbV (by omega)
        have HZV : Hid (LastAt V w.heap.size (fun _ => zN)) := HZW.out.below hbV (by omega)
        have HIV : Hid (Inv k V) := HKP.out k W V HIW.out (hbV.block M (by omega))
        have HSVV : Hid (Save M w.heap.size w V) := HSW.out.trans (Save.of_below (hbV.mono (by omega)))
        have v0 := (hbV.cell (p := ⟨P, 0, none⟩) hPR).trans p0
        have v1 := (hbV.cell (p := ⟨P, 1, none⟩) hPR).trans p1
        have v2 := (hbV.cell (p := ⟨P, 2, none⟩) hPR).trans p2
        have v3 := (hbV.cell (p := ⟨P, 3, none⟩) hPR).trans p3
        clear hV hbV d0 d1 d2 d3 p0 p1 p2 p3 q0 q1 q2 q3 z0 z1 z2 z3 HLW HZW HIW HSW hsR
        have HSTK : Hid (Calls Tryz.prog N #[.agg #[.int .i64 t, .int .i64 1, .int .i64 x, .int .i64 m], .agg #[.int .i64 s1, .int .i64 s2, .int .i64 s3, .int .i64 sm], cap] V fun e W' => e = .returned (.bool (ok k)) ∧ Inv (if ok k = true then k + 1 else k) W' ∧ Save M V.heap.size V W') := by
          have h1 := HST.out k hlt V HIV.out HSVV.out
          rw [HNM.out, HSRC.out] at h1
          exact h1
        refine HSTK.out.mono ?_
        rintro e w1 ⟨rfl, hin1, hsv1⟩
        have HL1 : Hid (LastAt w1 (w.heap.size + 1) (lastF l k)) := HLV.out.same (hsv1.block _ HLV.out.lt (by omega))
        have HZ1 : Hid (LastAt w1 w.heap.size (fun _ => zN)) := HZV.out.same (hsv1.block _ HZV.out.lt (by omega))
        have HS1 : Hid (Save M w.heap.size w w1) := HSVV.out.trans (hsv1.mono HSVV.out.size)
        have hPV : P < V.heap.size := World.block_lt_of_cell? V _ v0
        have e0 : w1.cell? ⟨P, 0, none⟩ = some (.int .i64 t) := (World.cell?_of_block (a := ⟨P, 0, none⟩) (hsv1.block P hPV (by omega))).trans v0
        have e1 : w1.cell? ⟨P, 1, none⟩ = some (.int .i64 1) := (World.cell?_of_block (a := ⟨P, 1, none⟩) (hsv1.block P hPV (by omega))).trans v1
        have e2 : w1.cell? ⟨P, 2, none⟩ = some (.int .i64 x) := (World.cell?_of_block (a := ⟨P, 2, none⟩) (hsv1.block P hPV (by omega))).trans v2
        have e3 : w1.cell? ⟨P, 3, none⟩ = some (.int .i64 m) := (World.cell?_of_block (a := ⟨P, 3, none⟩) (hsv1.block P hPV (by omega))).trans v3
        clear v0 v1 v2 v3 hsv1 HSTK HIV HSVV HLV HZV hPV
        cases hok : ok k with
        | false =>
          rw [hok] at hin1
          have HI1 : Hid (Inv k w1) := hin1
          have HOK : Hid (ok k = false) := hok
          clear hin1 hok
          go_wp2_with (first | refine wpList_load_row rfl 81 (.tmp 6) rfl (w.heap.size + 1) rfl 81 (cells28 (lastF l k)) (0, 0) _ HL1.out Tryz.underlying81 rfl (last_info' _) ?_ | refine wpList_store_row rfl 81 (.tmp 4) (.tmp 30) rfl w.heap.size (cells28 (lastF l k)) rfl rfl 81 (cells28 fun _ => zN) HZ1.out (last_info' _) (by rw [cells28_size, cells28_size]) (cells28_one _) ?_)
          exact bodyPost_ret (v := .tuple #[.agg (cells28 (lastF l k)), .bool false]) (results_two Tryz.results73 _ _ w.heap.size 81 (cells28 (lastF l k)) (0, 0) _ _ rfl rfl (setRow_heap _ _ _ _ _ _ HZ1.out) Tryz.underlying81 rfl (last_info' _)) rfl ⟨k, by omega, HALL.out, fun _ => HOK.out, by rw [show decide (k = l.length) = false from decide_eq_false (by omega)], HKP.out k w1 _ HI1.out (row_other (by omega)), HS1.out.setRow⟩
        | true =>
          rw [hok] at hin1
          have HI1 : Hid (Inv (k + 1) w1) := hin1
          have HOK : Hid (∀ j, j < k + 1 → ok j = true) := fun j hj => by
            rcases Nat.lt_or_ge j k with h | h
            · exact HALL.out j h
            · rw [show j = k by omega]; exact hok
          clear hin1 hok
          have HF : Hid (lastF l (k + 1) = lastF l k) := lastF_pass (by rw [HO.out]; show (1 : Int) ≠ 2; decide)
          go_wp2_with fail
          go_roundw
          case rel => exact ⟨k + 1, by omega, by go_num, HOK.out, HI1.out, by rw [HF.out]; exact HL1.out, HZ1.out, HS1.out⟩
          case measure => simp [intOf]; omega
      · have ha1' : (a == 1) = false := by simpa using ha1
        have HSRC : Hid (srcN l k = zN) := by
          show srcN l k = zN
          unfold srcN
          rw [HO.out, if_neg ha1]
        clear ha1
        have HLV : Hid (LastAt W (w.heap.size + 1) (lastF l k)) := HLW.out
        have HZV : Hid (LastAt W w.heap.size (fun _ => zN)) := HZW.out
        have HIV : Hid (Inv k W) := HIW.out
        have HSVV : Hid (Save M w.heap.size w W) := HSW.out
        clear HLW HZW HIW HSW
        go_wp2_with fail
        have v0 := p0
        have v1 := p1
        have v2 := p2
        have v3 := p3
        clear p0 p1 p2 p3 q0 q1 q2 q3 z0 z1 z2 z3
        have HSTK : Hid (Calls Tryz.prog N #[.agg #[.int .i64 t, .int .i64 a, .int .i64 x, .int .i64 m], .agg #[.int .i64 0, .int .i64 0, .int .i64 0, .int .i64 0], cap] W fun e W' => e = .returned (.bool (ok k)) ∧ Inv (if ok k = true then k + 1 else k) W' ∧ Save M W.heap.size W W') := by
          have h1 := HST.out k hlt W HIV.out HSVV.out
          rw [HNM.out, HSRC.out] at h1
          exact h1
        refine HSTK.out.mono ?_
        rintro e w1 ⟨rfl, hin1, hsv1⟩
        have HL1 : Hid (LastAt w1 (w.heap.size + 1) (lastF l k)) := HLV.out.same (hsv1.block _ HLV.out.lt (by omega))
        have HZ1 : Hid (LastAt w1 w.heap.size (fun _ => zN)) := HZV.out.same (hsv1.block _ HZV.out.lt (by omega))
        have HS1 : Hid (Save M w.heap.size w w1) := HSVV.out.trans (hsv1.mono HSVV.out.size)
        have hPV : P < W.heap.size := World.block_lt_of_cell? W _ v0
        have e0 : w1.cell? ⟨P, 0, none⟩ = some (.int .i64 t) := (World.cell?_of_block (a := ⟨P, 0, none⟩) (hsv1.block P hPV (by omega))).trans v0
        have e1 : w1.cell? ⟨P, 1, none⟩ = some (.int .i64 a) := (World.cell?_of_block (a := ⟨P, 1, none⟩) (hsv1.block P hPV (by omega))).trans v1
        have e2 : w1.cell? ⟨P, 2, none⟩ = some (.int .i64 x) := (World.cell?_of_block (a := ⟨P, 2, none⟩) (hsv1.block P hPV (by omega))).trans v2
        have e3 : w1.cell? ⟨P, 3, none⟩ = some (.int .i64 m) := (World.cell?_of_block (a := ⟨P, 3, none⟩) (hsv1.block P hPV (by omega))).trans v3
        clear v0 v1 v2 v3 hsv1 HSTK HIV HSVV HLV HZV hPV
        cases hok : ok k with
        | false =>
          rw [hok] at hin1
          have HI1 : Hid (Inv k w1) := hin1
          have HOK : Hid (ok k = false) := hok
          clear hin1 hok
          go_wp2_with (first | refine wpList_load_row rfl 81 (.tmp 6) rfl (w.heap.size + 1) rfl 81 (cells28 (lastF l k)) (0, 0) _ HL1.out Tryz.underlying81 rfl (last_info' _) ?_ | refine wpList_store_row rfl 81 (.tmp 4) (.tmp 30) rfl w.heap.size (cells28 (lastF l k)) rfl rfl 81 (cells28 fun _ => zN) HZ1.out (last_info' _) (by rw [cells28_size, cells28_size]) (cells28_one _) ?_)
          exact bodyPost_ret (v := .tuple #[.agg (cells28 (lastF l k)), .bool false]) (results_two Tryz.results73 _ _ w.heap.size 81 (cells28 (lastF l k)) (0, 0) _ _ rfl rfl (setRow_heap _ _ _ _ _ _ HZ1.out) Tryz.underlying81 rfl (last_info' _)) rfl ⟨k, by omega, HALL.out, fun _ => HOK.out, by rw [show decide (k = l.length) = false from decide_eq_false (by omega)], HKP.out k w1 _ HI1.out (row_other (by omega)), HS1.out.setRow⟩
        | true =>
          rw [hok] at hin1
          have HI1 : Hid (Inv (k + 1) w1) := hin1
          have HOK : Hid (∀ j, j < k + 1 → ok j = true) := fun j hj => by
            rcases Nat.lt_or_ge j k with h | h
            · exact HALL.out j h
            · rw [show j = k by omega]; exact hok
          clear hin1 hok
          by_cases ha2 : a = 2
          · subst ha2
            obtain ⟨hx1, hx6⟩ := isOp_item HIS.out (.inr rfl)
            simp only at hx1 hx6
            have hx7 : x < 7 := by omega
            have hx0 : 0 ≤ x := by omega
            obtain ⟨⟨⟨s1, s2, s3⟩, sm⟩, hsrc⟩ : ∃ n, lastF l k x.toNat = n := ⟨_, rfl⟩
            obtain ⟨d0, d1, d2, d3⟩ := HL1.out.cells (x := x.toNat) (by omega) hsrc
            clear hsrc
            have y0 := HL1.out.thaw (x.toNat * 4)
            have y1 := HL1.out.thaw (x.toNat * 4 + 1)
            have y2 := HL1.out.thaw (x.toNat * 4 + 2)
            have y3 := HL1.out.thaw (x.toNat * 4 + 3)
            have HF : Hid (lastF l (k + 1) = setW (lastF l k) x.toNat ((t, 2, x), m)) := by
              show lastF l (k + 1) = setW (lastF l k) x.toNat ((t, 2, x), m)
              rw [← HNM.out]
              exact lastF_write (by rw [HO.out]) (by rw [HO.out]) hx0
            have HLN : Hid (LastAt ((((w1.setCell ⟨w.heap.size + 1, x.toNat * 4, none⟩ (.int .i64 t)).setCell ⟨w.heap.size + 1, x.toNat * 4 + 1, none⟩ (.int .i64 2)).setCell ⟨w.heap.size + 1, x.toNat * 4 + 2, none⟩ (.int .i64 x)).setCell ⟨w.heap.size + 1, x.toNat * 4 + 3, none⟩ (.int .i64 m)) (w.heap.size + 1) (lastF l (k + 1))) := by
              rw [HF.out]
              exact HL1.out.set x.toNat ((t, 2, x), m)
            have HBN : Hid (Below (w.heap.size + 1) w1 ((((w1.setCell ⟨w.heap.size + 1, x.toNat * 4, none⟩ (.int .i64 t)).setCell ⟨w.heap.size + 1, x.toNat * 4 + 1, none⟩ (.int .i64 2)).setCell ⟨w.heap.size + 1, x.toNat * 4 + 2, none⟩ (.int .i64 x)).setCell ⟨w.heap.size + 1, x.toNat * 4 + 3, none⟩ (.int .i64 m))) := by
              refine ((((Below.refl (w.heap.size + 1) w1).setCell ?_ _).setCell ?_ _).setCell ?_ _).setCell ?_ _ <;> exact Nat.le_refl _
            go_wp2_with fail
            go_roundw
            case rel => exact ⟨k + 1, by omega, by go_num, HOK.out, HKP.out _ w1 _ HI1.out (HBN.out.block M (by omega)), HLN.out, HZ1.out.below HBN.out (by omega), HS1.out.trans (Save.of_below (HBN.out.mono (by omega)))⟩
            case measure => simp [intOf]; omega
          · have ha2' : (a == 2) = false := by simpa using ha2
            have HF : Hid (lastF l (k + 1) = lastF l k) := lastF_pass (by rw [HO.out]; exact ha2)
            clear ha2
            go_wp2_with fail
            go_roundw
            case rel => exact ⟨k + 1, by omega, by go_num, HOK.out, HI1.out, by rw [HF.out]; exact HL1.out, HZ1.out, HS1.out⟩
            case measure => simp [intOf]; omega
    · have hlt' : ¬ (k : Int) < (l.length : Int) := by omega
      obtain rfl : k = l.length := by omega
      go_wp2_with (first | refine wpList_load_row rfl 81 (.tmp 6) rfl (w.heap.size + 1) rfl 81 (cells28 (lastF l l.length)) (0, 0) _ HLA.out Tryz.underlying81 rfl (last_info' _) ?_ | refine wpList_store_row rfl 81 (.tmp 4) (.tmp 41) rfl w.heap.size (cells28 (lastF l l.length)) rfl rfl 81 (cells28 fun _ => zN) HZE.out (last_info' _) (by rw [cells28_size, cells28_size]) (cells28_one _) ?_)
      exact bodyPost_ret (v := .tuple #[.agg (cells28 (lastF l l.length)), .bool true]) (results_two Tryz.results73 _ _ w.heap.size 81 (cells28 (lastF l l.length)) (0, 0) _ _ rfl rfl (setRow_heap _ _ _ _ _ _ HZE.out) Tryz.underlying81 rfl (last_info' _)) rfl ⟨l.length, Nat.le_refl _, HALL.out, fun h => absurd h (by omega), by simp, HKP.out _ wr _ HINV.out (row_other (by omega)), HSV.out.setRow⟩
end Go.Proofs.YtjaeaanpbdmfgabGreatDoor
