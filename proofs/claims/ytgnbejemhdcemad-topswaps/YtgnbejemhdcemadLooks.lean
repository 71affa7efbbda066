/-
  PROVED HERE: view.follow goes over names as long as what is told is taken: of each op the Write that it reads; it gives what was written last by then, and whether all was taken. Of the old memory one block alone may turn: that which the closure turns.
  Conditions: what the closure does is a premise.
  PROVED HERE: view.look gives of names what each op reads, in a map of its own, and what was written last. Old memory stays as it was.
  Conditions: none.
  PROVED HERE: view.sight's isOf tells of names whether they come to the same sight: the same names, each reads the same, the same is left. Old memory stays as it was.
  Conditions: none.
  PROVED HERE: odds.Names gives the names of a list's ops; of a wrong list Check's error. Old memory stays as it was.
  Conditions: none.
  PROVED HERE: view.doneNames gives the names of the ops of what is done, view.Same tells whether two lists look the same; of a wrong list Check's error. Old memory stays as it was.
  Conditions: none.
-/
import Derived.Test.YtgnbejemhdcemadSights
import Derived.Deep.Cut
import Derived.Deep.QuietTactic
import Derived.BigQuiet
import Derived.WalkSmall
import Derived.Test.YtgnbejemhdcemadBack
namespace Go.Proofs.Ytgnbejemhdcemad
open Go.RowKit Go.Maps

/-- Of the blocks below a base one alone has turned. -/
structure Save (a B : Nat) (w w' : World) : Prop where
  os : w'.os = w.os
  tape : w'.tape = w.tape
  output : w'.output = w.output
  size : w.heap.size ≤ w'.heap.size
  block : ∀ k, k < B → k ≠ a → w'.heap[k]? = w.heap[k]?
theorem Save.refl (a B : Nat) (w : World) : Save a B w w := ⟨rfl, rfl, rfl, Nat.le_refl _, fun _ _ _ => rfl⟩
theorem Save.trans {a B : Nat} {w w1 w2 : World} (h : Save a B w w1) (k : Save a B w1 w2) : Save a B w w2 :=
  ⟨k.os.trans h.os, k.tape.trans h.tape, k.output.trans h.output, Nat.le_trans h.size k.size, fun j h1 h2 => (k.block j h1 h2).trans (h.block j h1 h2)⟩
theorem Save.mono {a B C : Nat} {w w1 : World} (h : Save a B w w1) (hC : C ≤ B) : Save a C w w1 := ⟨h.os, h.tape, h.output, h.size, fun k h1 h2 => h.block k (by omega) h2⟩
theorem Save.of_below {a B : Nat} {w w1 : World} (h : Below B w w1) : Save a B w w1 := ⟨h.os, h.tape, h.output, h.size, fun k hk _ => h.block k hk⟩
theorem Save.grown {a : Nat} {w w1 : World} (h : Save a w.heap.size w w1) : w.grownBy w1 (some a) := ⟨h.os, h.tape, h.output, h.size, fun k hk hne => h.block k hk (fun e => hne (by rw [e]))⟩
theorem Save.of_grown {a : Nat} {w w1 : World} (h : w.grownBy w1 (some a)) : Save a w.heap.size w w1 := ⟨h.os, h.tape, h.output, h.size, fun k hk hne => h.block k hk (fun e => hne (Option.some.inj e))⟩
theorem Save.below {a B : Nat} {w w1 : World} (h : Save a B w w1) (hs : w1.heap[a]? = w.heap[a]?) : Below B w w1 := ⟨h.os, h.tape, h.output, h.size, fun k hk => by
  by_cases e : k = a
  · rw [e]; exact hs
  · exact h.block k hk e⟩
def lastF (l : List Op3) (k : Nat) : Nat → Nm := fun x => lastW l k (x : Int)
theorem lastF_write {l : List Op3} {k : Nat} {x : Int} (h1 : (opAt l k).2.1 = 2) (h2 : (opAt l k).2.2 = x) (hx : 0 ≤ x) : lastF l (k + 1) = setW (lastF l k) x.toNat (nameAt l k) := by
  funext y
  unfold lastF setW
  by_cases e : y = x.toNat
  · rw [if_pos e, lastW_hit h1 (by rw [h2]; omega)]
  · rw [if_neg e, lastW_pass (by rw [h2]; omega)]
theorem lastF_pass {l : List Op3} {k : Nat} (h : (opAt l k).2.1 ≠ 2) : lastF l (k + 1) = lastF l k := by
  funext y
  unfold lastF
  rw [lastW_pass fun hh => h hh.1]
theorem wrTo_lt {l : List Op3} {k j : Nat} {x : Int} (h : wrTo l x k = some j) : j < k := (wrTo_some h).1
theorem small_zN : Small zN := ⟨wf_small (by decide) (by decide), wf_small (by decide) (by decide), wf_small (by decide) (by decide), wf_small (by decide) (by decide)⟩
theorem small_last {l : List Op3} {k : Nat} (hl : l.length ≤ 40) (hop : ∀ o ∈ l, isOpB o = true) (hk : k ≤ l.length) (x : Int) : Small (lastW l k x) := by
  cases h : wrTo l x k with
  | none => rw [lastW_none h]; exact small_zN
  | some j => rw [lastW_some h]; exact small_name hl hop (by have := wrTo_lt h; omega)
theorem small_src {l : List Op3} {k : Nat} (hl : l.length ≤ 40) (hop : ∀ o ∈ l, isOpB o = true) (hk : k ≤ l.length) : Small (srcN l k) := by
  unfold srcN
  split
  · exact small_last hl hop hk _
  · exact small_zN
theorem row_other {w : World} {g k : Nat} {cs : Array Value} (h : k ≠ g) : (w.setRow g cs).heap[k]? = w.heap[k]? := by
  unfold World.setRow
  simp [Array.getElem?_modify, h.symm]
theorem Save.setRow {a B : Nat} {w w1 : World} {cs : Array Value} (h : Save a B w w1) : Save a B w (w1.setRow B cs) := ⟨h.os, h.tape, h.output, by simpa [World.setRow] using h.size, fun k h1 h2 => (row_other (by omega)).trans (h.block k h1 h2)⟩
theorem results_two {P : Program} {fn : Func} {p q : Tmp} {ty : TypeId} (h : fn.results = #[.cell p ty, .tmp q]) (tmps : Array Value) (w : World) (g : Nat) (t : TypeId) (cs : Array Value) (fr : Nat × Nat) (d : TypeDesc) (v : Value)
    (hp : tmps.getD p undef = .pointer (some ⟨g, 0, none⟩)) (hq : tmps.getD q undef = v) (hg : w.heap[g]? = some (.cells cs t fr))
    (hu : P.underlying ty = some d) (hd : (match d with | .struct _ | .array _ _ => true | _ => false) = true) (hi : (P.info? ty).map (·.size) = some cs.size) :
    (results fn tmps).run P w = .ok (.tuple #[.agg cs, v]) w := by
  have hp' : tmps[p]?.getD undef = .pointer (some ⟨g, 0, none⟩) := by simpa using hp
  have hq' : tmps[q]?.getD undef = v := by simpa using hq
  simp [results, h, hp', hq', asAddr, run_loadVar_row w g t ty cs fr d hg hu hd hi]

set_option maxHeartbeats 8000000 in
set_option maxRecDepth 100000 in
theorem follow_any (l : List Op3) (nv cap : Value) (N M : Nat) (es : Array MapEntry) (clock : Nat) (w : World) (Inv : Nat → World → Prop) (ok : Nat → Bool)
    (hcall : ∀ (args : Array Value) (W : World), (callFunc N args).run Try.prog W = .ok (.enter N args) W)
    (hN : IsNames w nv (namesTo l l.length)) (hl : l.length ≤ 40) (hop : ∀ o ∈ l, isOpB o = true) (hM : w.heap[M]? = some (.map es clock)) (h0 : Inv 0 w)
    (hkeep : ∀ k W W', Inv k W → W'.heap[M]? = W.heap[M]? → Inv k W')
    (hstep : ∀ k, k < l.length → ∀ W, Inv k W → Save M w.heap.size w W → Calls Try.prog N #[nmV (nameAt l k), nmV (srcN l k), cap] W fun e W' => e = .returned (.bool (ok k)) ∧ Inv (if ok k = true then k + 1 else k) W' ∧ Save M W.heap.size W W') :
    Calls Try.prog 55 #[nv, .func (.func N) #[] #[cap]] w fun e w' => ∃ k, k ≤ l.length ∧ (∀ j, j < k → ok j = true) ∧ (k < l.length → ok k = false) ∧ e = .returned (.tuple #[.agg (cells28 (lastF l k)), .bool (decide (k = l.length))]) ∧ Inv k w' ∧ Save M w.heap.size w w' := by
  obtain ⟨ad, b, off, cp, rfl, hcel⟩ := names_cells hN hM (namesTo_len l l.length)
  have HC : Hid (∀ W, Save M w.heap.size w W → ∀ k, k < l.length → ad = some ⟨b, off, none⟩ ∧ W.cell? ⟨b, off + k * 4, none⟩ = some (.int .i64 (nameAt l k).1.1) ∧ W.cell? ⟨b, off + k * 4 + 1, none⟩ = some (.int .i64 (nameAt l k).1.2.1) ∧ W.cell? ⟨b, off + k * 4 + 2, none⟩ = some (.int .i64 (nameAt l k).1.2.2) ∧ W.cell? ⟨b, off + k * 4 + 3, none⟩ = some (.int .i64 (nameAt l k).2)) := fun W hW k hk => by
    have := hcel W hW.grown k hk
    rw [nmAt_names l _ k hk] at this
    exact this
  have hMl : M < w.heap.size := (Array.getElem?_eq_some_iff.1 hM).1
  have HOP : Hid (∀ o ∈ l, isOpB o = true) := hop
  have HST : Hid (∀ k, k < l.length → ∀ W, Inv k W → Save M w.heap.size w W → Calls Try.prog N #[nmV (nameAt l k), nmV (srcN l k), cap] W fun e W' => e = .returned (.bool (ok k)) ∧ Inv (if ok k = true then k + 1 else k) W' ∧ Save M W.heap.size W W') := hstep
  have HKP : Hid (∀ k W W', Inv k W → W'.heap[M]? = W.heap[M]? → Inv k W') := hkeep
  have H0 : Hid (Inv 0 w) := h0
  clear hcel hN hM hop hstep hkeep h0
  go_enter Try.func55, Try.ntmps55
  go_wp2_with fail
  go_loopw [12] (fun v12 wr => ∃ k : Nat, k ≤ l.length ∧ v12 = .int .i64 k ∧ (∀ j, j < k → ok j = true) ∧ Inv k wr ∧ LastAt wr (w.heap.size + 1) (lastF l k) ∧ LastAt wr w.heap.size (fun _ => zN) ∧ Save M w.heap.size w wr) (fun v12 _ => l.length - (intOf v12).toNat)
  case atStart =>
    refine ⟨0, Nat.zero_le _, rfl, fun j hj => absurd hj (by omega), HKP.out 0 w _ H0.out ((((Below.refl _ w).alloc (Nat.le_refl _) _).alloc (by simp) _).block M hMl), ?_, (last_fresh w _ rfl).alloc _, Save.of_below (((Below.refl _ w).alloc (Nat.le_refl _) _).alloc (by simp) _)⟩
    have h1 := last_fresh (w.alloc (.cells (cells28 fun _ => zN) 61)) _ rfl
    rw [show (w.alloc (.cells (cells28 fun _ => zN) 61)).heap.size = w.heap.size + 1 by simp] at h1
    exact h1
  case round =>
    obtain ⟨k, hk, rfl, hall, hinv, hla, hze, hsv⟩ := hrel
    have HALL : Hid (∀ j, j < k → ok j = true) := hall
    have HINV : Hid (Inv k wr) := hinv
    have HLA : Hid (LastAt wr (w.heap.size + 1) (lastF l k)) := hla
    have HZE : Hid (LastAt wr w.heap.size (fun _ => zN)) := hze
    have HSV : Hid (Save M w.heap.size w wr) := hsv
    have hsz := hla.lt
    clear hall hinv hla hze hsv
    by_cases hlt : k < l.length
    · have hlt' : (k : Int) < (l.length : Int) := by omega
      obtain ⟨rfl, c0, c1, c2, c3⟩ := HC.out wr HSV.out k hlt
      obtain ⟨⟨⟨t, a, x⟩, m⟩, hnm⟩ : ∃ n, nameAt l k = n := ⟨_, rfl⟩
      have ho : opAt l k = (t, a, x) := congrArg Prod.fst hnm
      have hisop := HOP.out _ (opAt_mem hlt)
      rw [ho] at hisop
      have HNM : Hid (nameAt l k = ((t, a, x), m)) := hnm
      have HO : Hid (opAt l k = (t, a, x)) := ho
      have HIS : Hid (isOpB (t, a, x) = true) := hisop
      rw [hnm] at c0 c1 c2 c3
      simp only at c0 c1 c2 c3
      clear hnm ho hisop
      go_upto_region 6 with (fail)
      obtain ⟨W, hW⟩ : ∃ W, W = (wr.alloc (.cells #[.int .i64 t, .int .i64 a, .int .i64 x, .int .i64 m] 59)).alloc (.cells #[.int .i64 0, .int .i64 0, .int .i64 0, .int .i64 0] 59) := ⟨_, rfl⟩
      rw [← hW]
      obtain ⟨P, hP⟩ : ∃ P, P = wr.heap.size := ⟨_, rfl⟩
      obtain ⟨R, hR⟩ : ∃ R, R = wr.heap.size + 1 := ⟨_, rfl⟩
      rw [← hR, ← hP]
      have p0 : W.cell? ⟨P, 0, none⟩ = some (.int .i64 t) := by rw [hW, hP]; simp
      have p1 : W.cell? ⟨P, 1, none⟩ = some (.int .i64 a) := by rw [hW, hP]; simp
      have p2 : W.cell? ⟨P, 2, none⟩ = some (.int .i64 x) := by rw [hW, hP]; simp
      have p3 : W.cell? ⟨P, 3, none⟩ = some (.int .i64 m) := by rw [hW, hP]; simp
      have q0 : W.cell? ⟨R, 0, none⟩ = some (.int .i64 0) := by rw [hW, hR]; simp
      have q1 : W.cell? ⟨R, 1, none⟩ = some (.int .i64 0) := by rw [hW, hR]; simp
      have q2 : W.cell? ⟨R, 2, none⟩ = some (.int .i64 0) := by rw [hW, hR]; simp
      have q3 : W.cell? ⟨R, 3, none⟩ = some (.int .i64 0) := by rw [hW, hR]; simp
      have z0 : W.frozen? ⟨R, 0, none⟩ = false := by rw [hW, hR]; simp
      have z1 : W.frozen? ⟨R, 1, none⟩ = false := by rw [hW, hR]; simp
      have z2 : W.frozen? ⟨R, 2, none⟩ = false := by rw [hW, hR]; simp
      have z3 : W.frozen? ⟨R, 3, none⟩ = false := by rw [hW, hR]; simp
      have hbw : Below wr.heap.size wr W := by rw [hW]; exact ((Below.refl _ wr).alloc (Nat.le_refl _) _).alloc (by simp) _
      have hsR : R < W.heap.size := by rw [hW, hR]; simp
      have HLW : Hid (LastAt W (w.heap.size + 1) (lastF l k)) := HLA.out.below hbw hsz
      have HZW : Hid (LastAt W w.heap.size (fun _ => zN)) := HZE.out.below hbw (by omega)
      have HIW : Hid (Inv k W) := HKP.out k wr W HINV.out (hbw.block M (by omega))
      have HSW : Hid (Save M w.heap.size w W) := HSV.out.trans (Save.of_below (hbw.mono (by omega)))
      have hPR : P < R := by omega
      have hPB : w.heap.size + 1 < P := by omega
      clear hW hP hR hbw HLA HZE HINV HSV c0 c1 c2 c3 hsz
      have hne : ¬ R = P := by omega
      have hne' : ¬ P = R := by omega
      by_cases ha1 : a = 1
      · subst ha1
        obtain ⟨hx1, hx6⟩ := isOp_item HIS.out (.inl rfl)
        simp only at hx1 hx6
        have hx7 : x < 7 := by omega
        have hx0 : 0 ≤ x := by omega
        obtain ⟨⟨⟨s1, s2, s3⟩, sm⟩, hsrc⟩ : ∃ n, lastF l k x.toNat = n := ⟨_, rfl⟩
        obtain ⟨d0, d1, d2, d3⟩ := HLW.out.cells (x := x.toNat) (by omega) hsrc
        have HSRC : Hid (srcN l k = ((s1, s2, s3), sm)) := by
          show srcN l k = ((s1, s2, s3), sm)
          rw [← hsrc]
          unfold srcN lastF
          rw [HO.out, if_pos rfl, show ((x.toNat : Nat) : Int) = x by omega]
        clear hsrc
        go_wp2_with fail
        obtain ⟨V, hV⟩ : ∃ V, V = (((W.setCell ⟨R, 0, none⟩ (.int .i64 s1)).setCell ⟨R, 1, none⟩ (.int .i64 s2)).setCell ⟨R, 2, none⟩ (.int .i64 s3)).setCell ⟨R, 3, none⟩ (.int .i64 sm) := ⟨_, rfl⟩
        rw [← hV]
        have hbV : Below R W V := by rw [hV]; exact ((((Below.refl R W).setCell (Nat.le_refl _) _).setCell (Nat.le_refl _) _).setCell (Nat.le_refl _) _).setCell (Nat.le_refl _) _
        have HLV : Hid (LastAt V (w.heap.size + 1) (lastF l k)) := HLW.out.below hbV (by omega)
        have HZV : Hid (LastAt V w.heap.size (fun _ => zN)) := HZW.out.below hbV (by omega)
        have HIV : Hid (Inv k V) := HKP.out k W V HIW.out (hbV.block M (by omega))
        have HSVV : Hid (Save M w.heap.size w V) := HSW.out.trans (Save.of_below (hbV.mono (by omega)))
        have v0 := (hbV.cell (p := ⟨P, 0, none⟩) hPR).trans p0
        have v1 := (hbV.cell (p := ⟨P, 1, none⟩) hPR).trans p1
        have v2 := (hbV.cell (p := ⟨P, 2, none⟩) hPR).trans p2
        have v3 := (hbV.cell (p := ⟨P, 3, none⟩) hPR).trans p3
        clear hV hbV d0 d1 d2 d3 p0 p1 p2 p3 q0 q1 q2 q3 z0 z1 z2 z3 HLW HZW HIW HSW hsR
        have HSTK : Hid (Calls Try.prog N #[.agg #[.int .i64 t, .int .i64 1, .int .i64 x, .int .i64 m], .agg #[.int .i64 s1, .int .i64 s2, .int .i64 s3, .int .i64 sm], cap] V fun e W' => e = .returned (.bool (ok k)) ∧ Inv (if ok k = true then k + 1 else k) W' ∧ Save M V.heap.size V W') := by
          have h1 := HST.out k hlt V HIV.out HSVV.out
          rw [HNM.out, HSRC.out] at h1
          exact h1
        refine HSTK.out.mono ?_
        rintro e w1 ⟨rfl, hin1, hsv1⟩
        have HL1 : Hid (LastAt w1 (w.heap.size + 1) (lastF l k)) := HLV.out.same (hsv1.block _ HLV.out.lt (by omega))
        have HZ1 : Hid (LastAt w1 w.heap.size (fun _ => zN)) := HZV.out.same (hsv1.block _ HZV.out.lt (by omega))
        have HS1 : Hid (Save M w.heap.size w w1) := HSVV.out.trans (hsv1.mono HSVV.out.size)
        have hPV : P < V.heap.size := World.block_lt_of_cell? V _ v0
        have e0 : w1.cell? ⟨P, 0, none⟩ = some (.int .i64 t) := (World.cell?_of_block (a := ⟨P, 0, none⟩) (hsv1.block P hPV (by omega))).trans v0
        have e1 : w1.cell? ⟨P, 1, none⟩ = some (.int .i64 1) := (World.cell?_of_block (a := ⟨P, 1, none⟩) (hsv1.block P hPV (by omega))).trans v1
        have e2 : w1.cell? ⟨P, 2, none⟩ = some (.int .i64 x) := (World.cell?_of_block (a := ⟨P, 2, none⟩) (hsv1.block P hPV (by omega))).trans v2
        have e3 : w1.cell? ⟨P, 3, none⟩ = some (.int .i64 m) := (World.cell?_of_block (a := ⟨P, 3, none⟩) (hsv1.block P hPV (by omega))).trans v3
        clear v0 v1 v2 v3 hsv1 HSTK HIV HSVV HLV HZV hPV
        cases hok : ok k with
        | false =>
          rw [hok] at hin1
          have HI1 : Hid (Inv k w1) := hin1
          have HOK : Hid (ok k = false) := hok
          clear hin1 hok
          go_wp2_with (first | refine wpList_load_row rfl 61 (.tmp 6) rfl (w.heap.size + 1) rfl 61 (cells28 (lastF l k)) (0, 0) _ HL1.out Try.underlying61 rfl (last_info' _) ?_ | refine wpList_store_row rfl 61 (.tmp 4) (.tmp 30) rfl w.heap.size (cells28 (lastF l k)) rfl rfl 61 (cells28 fun _ => zN) HZ1.out (last_info' _) (by rw [cells28_size, cells28_size]) (cells28_one _) ?_)
          exact bodyPost_ret (v := .tuple #[.agg (cells28 (lastF l k)), .bool false]) (results_two Try.results55 _ _ w.heap.size 61 (cells28 (lastF l k)) (0, 0) _ _ rfl rfl (setRow_heap _ _ _ _ _ _ HZ1.out) Try.underlying61 rfl (last_info' _)) rfl ⟨k, by omega, HALL.out, fun _ => HOK.out, by rw [show decide (k = l.length) = false from decide_eq_false (by omega)], HKP.out k w1 _ HI1.out (row_other (by omega)), HS1.out.setRow⟩
        | true =>
          rw [hok] at hin1
          have HI1 : Hid (Inv (k + 1) w1) := hin1
          have HOK : Hid (∀ j, j < k + 1 → ok j = true) := fun j hj => by
            rcases Nat.lt_or_ge j k with h | h
            · exact HALL.out j h
            · rw [show j = k by omega]; exact hok
          clear hin1 hok
          have HF : Hid (lastF l (k + 1) = lastF l k) := lastF_pass (by rw [HO.out]; show (1 : Int) ≠ 2; decide)
          go_wp2_with fail
          go_roundw
          case rel => exact ⟨k + 1, by omega, by go_num, HOK.out, HI1.out, by rw [HF.out]; exact HL1.out, HZ1.out, HS1.out⟩
          case measure => simp [intOf]; omega
      · have ha1' : (a == 1) = false := by simpa using ha1
        have HSRC : Hid (srcN l k = zN) := by
          show srcN l k = zN
          unfold srcN
          rw [HO.out, if_neg ha1]
        clear ha1
        have HLV : Hid (LastAt W (w.heap.size + 1) (lastF l k)) := HLW.out
        have HZV : Hid (LastAt W w.heap.size (fun _ => zN)) := HZW.out
        have HIV : Hid (Inv k W) := HIW.out
        have HSVV : Hid (Save M w.heap.size w W) := HSW.out
        clear HLW HZW HIW HSW
        go_wp2_with fail
        have v0 := p0
        have v1 := p1
        have v2 := p2
        have v3 := p3
        clear p0 p1 p2 p3 q0 q1 q2 q3 z0 z1 z2 z3
        have HSTK : Hid (Calls Try.prog N #[.agg #[.int .i64 t, .int .i64 a, .int .i64 x, .int .i64 m], .agg #[.int .i64 0, .int .i64 0, .int .i64 0, .int .i64 0], cap] W fun e W' => e = .returned (.bool (ok k)) ∧ Inv (if ok k = true then k + 1 else k) W' ∧ Save M W.heap.size W W') := by
          have h1 := HST.out k hlt W HIV.out HSVV.out
          rw [HNM.out, HSRC.out] at h1
          exact h1
        refine HSTK.out.mono ?_
        rintro e w1 ⟨rfl, hin1, hsv1⟩
        have HL1 : Hid (LastAt w1 (w.heap.size + 1) (lastF l k)) := HLV.out.same (hsv1.block _ HLV.out.lt (by omega))
        have HZ1 : Hid (LastAt w1 w.heap.size (fun _ => zN)) := HZV.out.same (hsv1.block _ HZV.out.lt (by omega))
        have HS1 : Hid (Save M w.heap.size w w1) := HSVV.out.trans (hsv1.mono HSVV.out.size)
        have hPV : P < W.heap.size := World.block_lt_of_cell? W _ v0
        have e0 : w1.cell? ⟨P, 0, none⟩ = some (.int .i64 t) := (World.cell?_of_block (a := ⟨P, 0, none⟩) (hsv1.block P hPV (by omega))).trans v0
        have e1 : w1.cell? ⟨P, 1, none⟩ = some (.int .i64 a) := (World.cell?_of_block (a := ⟨P, 1, none⟩) (hsv1.block P hPV (by omega))).trans v1
        have e2 : w1.cell? ⟨P, 2, none⟩ = some (.int .i64 x) := (World.cell?_of_block (a := ⟨P, 2, none⟩) (hsv1.block P hPV (by omega))).trans v2
        have e3 : w1.cell? ⟨P, 3, none⟩ = some (.int .i64 m) := (World.cell?_of_block (a := ⟨P, 3, none⟩) (hsv1.block P hPV (by omega))).trans v3
        clear v0 v1 v2 v3 hsv1 HSTK HIV HSVV HLV HZV hPV
        cases hok : ok k with
        | false =>
          rw [hok] at hin1
          have HI1 : Hid (Inv k w1) := hin1
          have HOK : Hid (ok k = false) := hok
          clear hin1 hok
          go_wp2_with (first | refine wpList_load_row rfl 61 (.tmp 6) rfl (w.heap.size + 1) rfl 61 (cells28 (lastF l k)) (0, 0) _ HL1.out Try.underlying61 rfl (last_info' _) ?_ | refine wpList_store_row rfl 61 (.tmp 4) (.tmp 30) rfl w.heap.size (cells28 (lastF l k)) rfl rfl 61 (cells28 fun _ => zN) HZ1.out (last_info' _) (by rw [cells28_size, cells28_size]) (cells28_one _) ?_)
          exact bodyPost_ret (v := .tuple #[.agg (cells28 (lastF l k)), .bool false]) (results_two Try.results55 _ _ w.heap.size 61 (cells28 (lastF l k)) (0, 0) _ _ rfl rfl (setRow_heap _ _ _ _ _ _ HZ1.out) Try.underlying61 rfl (last_info' _)) rfl ⟨k, by omega, HALL.out, fun _ => HOK.out, by rw [show decide (k = l.length) = false from decide_eq_false (by omega)], HKP.out k w1 _ HI1.out (row_other (by omega)), HS1.out.setRow⟩
        | true =>
          rw [hok] at hin1
          have HI1 : Hid (Inv (k + 1) w1) := hin1
          have HOK : Hid (∀ j, j < k + 1 → ok j = true) := fun j hj => by
            rcases Nat.lt_or_ge j k with h | h
            · exact HALL.out j h
            · rw [show j = k by omega]; exact hok
          clear hin1 hok
          by_cases ha2 : a = 2
          · subst ha2
            obtain ⟨hx1, hx6⟩ := isOp_item HIS.out (.inr rfl)
            simp only at hx1 hx6
            have hx7 : x < 7 := by omega
            have hx0 : 0 ≤ x := by omega
            obtain ⟨⟨⟨s1, s2, s3⟩, sm⟩, hsrc⟩ : ∃ n, lastF l k x.toNat = n := ⟨_, rfl⟩
            obtain ⟨d0, d1, d2, d3⟩ := HL1.out.cells (x := x.toNat) (by omega) hsrc
            clear hsrc
            have y0 := HL1.out.thaw (x.toNat * 4)
            have y1 := HL1.out.thaw (x.toNat * 4 + 1)
            have y2 := HL1.out.thaw (x.toNat * 4 + 2)
            have y3 := HL1.out.thaw (x.toNat * 4 + 3)
            have HF : Hid (lastF l (k + 1) = setW (lastF l k) x.toNat ((t, 2, x), m)) := by
              show lastF l (k + 1) = setW (lastF l k) x.toNat ((t, 2, x), m)
              rw [← HNM.out]
              exact lastF_write (by rw [HO.out]) (by rw [HO.out]) hx0
            have HLN : Hid (LastAt ((((w1.setCell ⟨w.heap.size + 1, x.toNat * 4, none⟩ (.int .i64 t)).setCell ⟨w.heap.size + 1, x.toNat * 4 + 1, none⟩ (.int .i64 2)).setCell ⟨w.heap.size + 1, x.toNat * 4 + 2, none⟩ (.int .i64 x)).setCell ⟨w.heap.size + 1, x.toNat * 4 + 3, none⟩ (.int .i64 m)) (w.heap.size + 1) (lastF l (k + 1))) := by
              rw [HF.out]
              exact HL1.out.set x.toNat ((t, 2, x), m)
            have HBN : Hid (Below (w.heap.size + 1) w1 ((((w1.setCell ⟨w.heap.size + 1, x.toNat * 4, none⟩ (.int .i64 t)).setCell ⟨w.heap.size + 1, x.toNat * 4 + 1, none⟩ (.int .i64 2)).setCell ⟨w.heap.size + 1, x.toNat * 4 + 2, none⟩ (.int .i64 x)).setCell ⟨w.heap.size + 1, x.toNat * 4 + 3, none⟩ (.int .i64 m))) := by
              refine ((((Below.refl (w.heap.size + 1) w1).setCell ?_ _).setCell ?_ _).setCell ?_ _).setCell ?_ _ <;> exact Nat.le_refl _
            go_wp2_with fail
            go_roundw
            case rel => exact ⟨k + 1, by omega, by go_num, HOK.out, HKP.out _ w1 _ HI1.out (HBN.out.block M (by omega)), HLN.out, HZ1.out.below HBN.out (by omega), HS1.out.trans (Save.of_below (HBN.out.mono (by omega)))⟩
            case measure => simp [intOf]; omega
          · have ha2' : (a == 2) = false := by simpa using ha2
            have HF : Hid (lastF l (k + 1) = lastF l k) := lastF_pass (by rw [HO.out]; exact ha2)
            clear ha2
            go_wp2_with fail
            go_roundw
            case rel => exact ⟨k + 1, by omega, by go_num, HOK.out, HI1.out, by rw [HF.out]; exact HL1.out, HZ1.out, HS1.out⟩
            case measure => simp [intOf]; omega
    · have hlt' : ¬ (k : Int) < (l.length : Int) := by omega
      obtain rfl : k = l.length := by omega
      go_wp2_with (first | refine wpList_load_row rfl 61 (.tmp 6) rfl (w.heap.size + 1) rfl 61 (cells28 (lastF l l.length)) (0, 0) _ HLA.out Try.underlying61 rfl (last_info' _) ?_ | refine wpList_store_row rfl 61 (.tmp 4) (.tmp 41) rfl w.heap.size (cells28 (lastF l l.length)) rfl rfl 61 (cells28 fun _ => zN) HZE.out (last_info' _) (by rw [cells28_size, cells28_size]) (cells28_one _) ?_)
      exact bodyPost_ret (v := .tuple #[.agg (cells28 (lastF l l.length)), .bool true]) (results_two Try.results55 _ _ w.heap.size 61 (cells28 (lastF l l.length)) (0, 0) _ _ rfl rfl (setRow_heap _ _ _ _ _ _ HZE.out) Try.underlying61 rfl (last_info' _)) rfl ⟨l.length, Nat.le_refl _, HALL.out, fun h => absurd h (by omega), by simp, HKP.out _ wr _ HINV.out (row_other (by omega)), HSV.out.setRow⟩
end Go.Proofs.Ytgnbejemhdcemad

namespace Go.Proofs.Ytgnbejemhdcemad
open Go.RowKit Go.Maps

/-- A name as a map's element. -/
def nmD (n : Nm) : DataW Unit := .agg [.lit (.int .i64 n.1.1), .lit (.int .i64 n.1.2.1), .lit (.int .i64 n.1.2.2), .lit (.int .i64 n.2)]
def nmElem (v : Value) : Option (DataW Unit × List MemPlace) :=
  match v with
  | .agg a =>
    match a.toList with
    | [.int .i64 p, .int .i64 q, .int .i64 r, .int .i64 s] => some (.agg [.lit (.int .i64 p), .lit (.int .i64 q), .lit (.int .i64 r), .lit (.int .i64 s)], [])
    | _ => none
  | _ => none
theorem nmElem_mk (n : Nm) : nmElem (nmV n) = some (nmD n, []) := rfl
theorem nmElem_inv {v : Value} {n : Nm} {ps : List MemPlace} (h : nmElem v = some (nmD n, ps)) : v = nmV n := by
  unfold nmElem at h
  split at h
  · rename_i a
    split at h
    · rename_i p q r s hl
      simp only [Option.some.injEq, Prod.mk.injEq, nmD, DataW.agg.injEq, List.cons.injEq, DataW.lit.injEq, Lit.int.injEq, true_and, and_true] at h
      obtain ⟨⟨rfl, rfl, rfl, rfl⟩, _⟩ := h
      unfold nmV
      rw [← Array.toArray_toList (xs := a), hl]
    · cases h
  · cases h
/-- What the map holds when k names are in. -/
def Froms (D : DataW Unit) (l : List Op3) (k : Nat) : Prop :=
  ∀ n : Nm, Small n → (∀ i, i < k → nameAt l i = n → Maps.has D (nmL n) = true ∧ D.atKey (nmL n) (nmD zN) = nmD (srcN l i)) ∧ ((∀ i, i < k → nameAt l i ≠ n) → Maps.has D (nmL n) = false)
theorem froms_start (l : List Op3) : Froms (.map []) l 0 := fun n _ => ⟨fun i hi => absurd hi (by omega), fun _ => rfl⟩
theorem froms_step {D : DataW Unit} {l : List Op3} {k : Nat} (hm : IsMap D) (hk : k < l.length) (hs : Small (nameAt l k)) (h : Froms D l k) : Froms (D.put (nmL (nameAt l k)) (nmD (srcN l k))) l (k + 1) := by
  intro n hn
  by_cases he : nameAt l k = n
  · subst he
    refine ⟨fun i hi hin => ⟨has_put_same hm (fLaw.key (nm_key _ hn)) _, ?_⟩, fun hno => absurd rfl (hno k (by omega))⟩
    rw [atKey_put_same hm (fLaw.key (nm_key _ hn)), name_inj (by omega) hk hin]
  · have hne : nmL n ≠ nmL (nameAt l k) := fun hh => he (nm_inj hs hn hh.symm)
    rw [has_put_other hne, atKey_put_other hne]
    obtain ⟨h1, h2⟩ := h n hn
    refine ⟨fun i hi hin => h1 i ?_ hin, fun hno => h2 fun i hi => hno i (by omega)⟩
    rcases Nat.lt_or_ge i k with h3 | h3
    · exact h3
    · exact absurd (show nameAt l k = n by rw [show k = i by omega]; exact hin) he
theorem froms_size {D : DataW Unit} {l : List Op3} {k : Nat} (ht : Tidy D) (hk : k < l.length) (hs : Small (nameAt l k)) (h : Froms D l k) (hz : Maps.size D = k) (d : DataW Unit) : Maps.size (D.put (nmL (nameAt l k)) d) = k + 1 := by
  rw [size_put ht, (h _ hs).2 fun i hi he => absurd (name_inj (by omega) hk he) (by omega), hz]
  simp
theorem nm_made (n : Int) (W : World) : (Instr.makeMap 57 (some (.int .i64 n))).run Try.prog W = .ok (.map (some W.heap.size)) (W.alloc (.map #[] 0)) := by
  simp [Instr.makeMap, run_underlying Try.underlying57, asInt]
  rfl
/-- What view.look gives, in memory. -/
structure Looked (w : World) (M : Nat) (l : List Op3) (k : Nat) (D : DataW Unit) : Prop where
  own : w.ownsMap Try.prog 59 nmElem M k D
  froms : Froms D l k
  size : Maps.size D = k
theorem Looked.same {w w' : World} {M k : Nat} {l : List Op3} {D : DataW Unit} (h : Looked w M l k D) (hb : w'.heap[M]? = w.heap[M]?) : Looked w' M l k D where
  own := by
    obtain ⟨es, clock, h1, h2⟩ := h.own
    exact ⟨es, clock, hb.trans h1, h2⟩
  froms := h.froms
  size := h.size

set_option maxHeartbeats 4000000 in
theorem look1_any (l : List Op3) (k M c : Nat) (D : DataW Unit) (W : World) (hl : l.length ≤ 40) (hop : ∀ o ∈ l, isOpB o = true) (hk : k < l.length) (hL : Looked W M l k D) (hc : W.cell? ⟨c, 0, none⟩ = some (.map (some M))) :
    Calls Try.prog 56 #[nmV (nameAt l k), nmV (srcN l k), .pointer (some ⟨c, 0, none⟩)] W fun e W' => e = .returned (.bool true) ∧ (∃ D', Looked W' M l (k + 1) D') ∧ Save M W.heap.size W W' := by
  have HK : Hid (keyOf Try.prog 59 (nmV (nameAt l k)) = some (nmL (nameAt l k))) := nm_key _ (small_name hl hop hk)
  have HN : Hid (∀ W' , W'.ownsMap Try.prog 59 nmElem M (k + 1) (D.put (nmL (nameAt l k)) (nmD (srcN l k))) → Looked W' M l (k + 1) (D.put (nmL (nameAt l k)) (nmD (srcN l k)))) := fun W' h => ⟨h, froms_step hL.own.isMap hk (small_name hl hop hk) hL.froms, froms_size (hL.own.tidy fLaw) hk (small_name hl hop hk) hL.froms hL.size _⟩
  have HOWN : Hid (W.ownsMap Try.prog 59 nmElem M k D) := hL.own
  have hMl := hL.own.lt
  have hcl := World.block_lt_of_cell? W _ hc
  simp only at hcl
  clear hop hL
  obtain ⟨⟨⟨t, a, x⟩, m⟩, hnm⟩ : ∃ n, nameAt l k = n := ⟨_, rfl⟩
  obtain ⟨⟨⟨s1, s2, s3⟩, sm⟩, hsr⟩ : ∃ n, srcN l k = n := ⟨_, rfl⟩
  rw [hnm] at HK
  rw [hnm, hsr] at HN ⊢
  clear hnm hsr
  unfold nmV at HK ⊢
  simp only at HK ⊢
  go_enter Try.func56, Try.ntmps56
  go_wp2_with (at_mapUpdate; refine wpList_mapUpdate_own (H := Unit) _ rfl (.tmp 6) (.tmp 7) (.tmp 8) 57 rfl 59 59 fLaw Try.underlying57 nmElem M k D rfl ((HOWN.out.alloc _).alloc _) (by unfold maxLen; omega) (.agg #[.int .i64 t, .int .i64 a, .int .i64 x, .int .i64 m]) (.agg #[.int .i64 s1, .int .i64 s2, .int .i64 s3, .int .i64 sm]) (nmL ((t, a, x), m)) rfl rfl HK.out (nmD ((s1, s2, s3), sm)) [] rfl ?_; intro w2 hown2 hgr2)
  go_ret
  exact ⟨rfl, ⟨_, HN.out _ hown2⟩, Save.of_grown (((World.grownBy_alloc _ _ _).trans (World.grownBy_alloc _ _ _)).trans hgr2)⟩
theorem look1_call (args : Array Value) (W : World) : (callFunc 56 args).run Try.prog W = .ok (.enter 56 args) W := by
  kernel_rfl
/-- A struct of two fields is built, of many cells. -/
theorem wpList_built {P : Program} {ops : Array Oper} {rest : List Oper} {o : Oper} {a : Act} {w : World} {Q : Exit → Act → World → Prop} (hg : o.guard = none) (t : TypeId) (p q : Operand) (ho : o.op = .build t #[(0, p), (1, q)]) (v u : Value) (hp : a.eval p = v) (hq : a.eval q = u) (cells : Array Value)
    (hc : P.built t [(0, v), (1, u)] = some cells) (h : wpList P ops Q rest (a.put o.dst (.agg cells)) w) : wpList P ops Q (o :: rest) a w := by
  have hc' : P.built t ((#[(0, p), (1, q)] : Array (Nat × Operand)).map fun (i, x) => (i, a.eval x)).toList = some cells := by
    simpa [hp, hq] using hc
  exact wpList_build hg t _ ho (by rw [hc']; rfl) (by rw [hc']; exact h)
def zero29 : Array Value := (Value.map none :: (cells28 fun _ => zN).toList).toArray
theorem zero29_size : zero29.size = 29 := by simp [zero29, cells28_size]
/-- Memory as view.look has it when it goes over the names. -/
structure Begins (w W : World) : Prop where
  out : W.heap[w.heap.size]? = some (.cells zero29 63 (0, 0))
  map : W.heap[w.heap.size + 1]? = some (.map #[] 0)
  own : W.ownsMap Try.prog 59 nmElem (w.heap.size + 1) 0 (.map [])
  cell : W.cell? ⟨w.heap.size + 1 + 1, 0, none⟩ = some (.map (some (w.heap.size + 1)))
  below : Below w.heap.size w W
theorem look_split {F : FuncId} {args : Array Value} {Q : Ending → World → Prop} (w : World) (Z : Array Value) (hZ : zero29 = Z) (h : ∀ W, Begins w W → Calls Try.prog F args W Q) :
    Calls Try.prog F args (((w.alloc (.cells Z 63)).alloc (.map #[] 0)).alloc (.cells #[.map (some (w.heap.size + 1))] 57)) Q := by
  subst hZ
  have h1 : (w.alloc (.cells zero29 63)).heap.size = w.heap.size + 1 := by simp
  have hm := World.ownsMap_made (w.alloc (.cells zero29 63)) Try.prog 59 nmElem
  rw [h1] at hm
  refine h _ ⟨?_, ?_, hm.alloc _, ?_, (((Below.refl _ w).alloc (Nat.le_refl _) _).alloc (by simp) _).alloc (by simp; omega) _⟩
  · rw [heap_alloc_old _ _ (by simp; omega), heap_alloc_old _ _ (by simp), heap_alloc_new]
  · rw [heap_alloc_old _ _ (by simp)]
    have h2 := heap_alloc_new (w.alloc (.cells zero29 63)) (.map #[] 0)
    rw [h1] at h2
    exact h2
  · rw [World.cell?_alloc_at _ _ _ _ (by simp)]; rfl

theorem last_split {c : Code} {Q : Exit → Act → World → Prop} {a : Act} (w : World) (Z : Array Value) (f : Nat → Nm) (hZ : cells28 (fun _ => zN) = Z) (h : ∀ W, LastAt W w.heap.size f → Below w.heap.size w W → Code.wp Try.prog c Q a W) :
    Code.wp Try.prog c Q a ((w.alloc (.cells Z 61)).setRow w.heap.size (cells28 f)) := by
  subst hZ
  exact h _ (setRow_heap _ _ _ _ _ _ (last_box w _)) (below_setRow ((Below.refl _ w).alloc (Nat.le_refl _) _) (Nat.le_refl _) _)
set_option maxHeartbeats 8000000 in
set_option maxRecDepth 100000 in
theorem look_any (l : List Op3) (nv : Value) (w : World) (hN : IsNames w nv (namesTo l l.length)) (hl : l.length ≤ 40) (hop : ∀ o ∈ l, isOpB o = true) :
    Calls Try.prog 25 #[nv] w fun e w' => ∃ M D, e = .returned (.agg (cells29 M (lastF l l.length))) ∧ w.heap.size ≤ M ∧ Looked w' M l l.length D ∧ Below w.heap.size w w' := by
  have HN : Hid (∀ W, Below w.heap.size w W → IsNames W nv (namesTo l l.length)) := fun W hW => by
    obtain ⟨ad, b, off, cap, hv, ha, hb, hat⟩ := hN
    refine ⟨ad, b, off, cap, hv, ha, ?_, hat.below hW hb⟩
    rcases hb with h | h
    · exact .inl (Nat.lt_of_lt_of_le h hW.size)
    · exact .inr h
  have HOP : Hid (∀ o ∈ l, isOpB o = true) := hop
  have hmm := nm_made
  obtain ⟨ad, b, off, cap, hv, -, -, -⟩ := hN
  rw [namesTo_len] at hv
  subst hv
  clear hop
  go_enter Try.func25, Try.ntmps25
  go_wp2_with fail
  refine look_split w _ rfl ?_
  intro W0 hB0
  have HB0 : Hid (Begins w W0) := hB0
  clear hB0
  refine (follow_any l _ _ 56 (w.heap.size + 1) #[] 0 W0 (fun k W => ∃ D, Looked W (w.heap.size + 1) l k D) (fun _ => true) look1_call (HN.out _ HB0.out.below) hl HOP.out HB0.out.map ⟨_, HB0.out.own, froms_start l, rfl⟩ ?_ ?_).mono ?_
  · rintro k W W' ⟨D, h⟩ hb
    exact ⟨D, h.same hb⟩
  · rintro k hk W ⟨D, h⟩ hsv
    have hcl := World.block_lt_of_cell? W0 _ HB0.out.cell
    refine (look1_any l k (w.heap.size + 1) (w.heap.size + 1 + 1) D W hl HOP.out hk h ((World.cell?_of_block (a := ⟨w.heap.size + 1 + 1, 0, none⟩) (hsv.block _ hcl (by simp))).trans HB0.out.cell)).mono ?_
    rintro e W' ⟨he, h1, h2⟩
    exact ⟨he, by simpa using h1, h2⟩
  rintro e w1 ⟨k, hk, -, hno, rfl, ⟨D, hD⟩, hsv⟩
  obtain rfl : k = l.length := by
    rcases Nat.lt_or_ge k l.length with h | h
    · exact absurd (hno h) (by simp)
    · omega
  have hcl := World.block_lt_of_cell? W0 _ HB0.out.cell
  simp only at hcl
  have HO1 : Hid (w1.heap[w.heap.size]? = some (.cells zero29 63 (0, 0))) := (hsv.block _ (by omega) (by omega)).trans HB0.out.out
  have HC1 : w1.cell? ⟨w.heap.size + 1 + 1, 0, none⟩ = some (.map (some (w.heap.size + 1))) := (World.cell?_of_block (a := ⟨w.heap.size + 1 + 1, 0, none⟩) (hsv.block _ hcl (by simp))).trans HB0.out.cell
  have HD : Hid (Looked w1 (w.heap.size + 1) l l.length D) := hD
  have HB1 : Hid (Below w.heap.size w w1) := HB0.out.below.trans ⟨hsv.os, hsv.tape, hsv.output, hsv.size, fun k h1 => hsv.block k (by omega) (by omega)⟩
  have hs1 := HB1.out.size
  have hl2 : w.heap.size + 1 + 1 < w1.heap.size := World.block_lt_of_cell? w1 _ HC1
  have HF1 : Hid (LastAt (w1.alloc (.cells (cells28 fun _ => zN) 61)) w1.heap.size (fun _ => zN)) := last_box _ _
  clear hno hsv hcl hD hk HB0
  go_upto_region 3 with (first | refine wpList_store_row rfl 61 (.tmp 4) (.tmp 13) rfl w1.heap.size (cells28 (lastF l l.length)) rfl rfl 61 (cells28 fun _ => zN) HF1.out (last_info' _) (by rw [cells28_size, cells28_size]) (cells28_one _) ?_ | fail)
  refine last_split w1 _ _ rfl ?_
  intro W hLW hBW
  have HLW : Hid (LastAt W w1.heap.size (lastF l l.length)) := hLW
  have HOW : Hid (W.heap[w.heap.size]? = some (.cells zero29 63 (0, 0))) := (hBW.block _ (by omega)).trans HO1.out
  have HCW : W.cell? ⟨w.heap.size + 1 + 1, 0, none⟩ = some (.map (some (w.heap.size + 1))) := (hBW.cell (p := ⟨w.heap.size + 1 + 1, 0, none⟩) hl2).trans HC1
  have HDW : Hid (Looked W (w.heap.size + 1) l l.length D) := HD.out.same (hBW.block _ (by omega))
  have HBW : Hid (Below w.heap.size w W) := HB1.out.trans (hBW.mono hs1)
  clear hLW hBW HC1 HO1 HD HB1 HF1
  go_wp2_with (first | refine wpList_load_row rfl 61 (.tmp 4) rfl w1.heap.size rfl 61 (cells28 (lastF l l.length)) (0, 0) _ HLW.out Try.underlying61 rfl (last_info' _) ?_ | refine wpList_built rfl 63 (.tmp 15) (.tmp 16) rfl (.map (some (w.heap.size + 1))) (.agg (cells28 (lastF l l.length))) rfl rfl (cells29 (w.heap.size + 1) (lastF l l.length)) (sight_built _ _) ?_ | refine wpList_store_row rfl 63 (.tmp 2) (.tmp 17) rfl w.heap.size (cells29 (w.heap.size + 1) (lastF l l.length)) rfl rfl 63 zero29 HOW.out (sight_info' _ _) (by rw [cells29_size, zero29_size]) (cells29_one _ _) ?_)
  exact bodyPost_ret (v := .agg (cells29 (w.heap.size + 1) (lastF l l.length))) (results_cell_row Try.results25 _ _ w.heap.size 63 (cells29 (w.heap.size + 1) (lastF l l.length)) (0, 0) _ rfl (setRow_heap _ _ _ _ _ _ HOW.out) Try.underlying63 rfl (sight_info' _ _)) rfl ⟨w.heap.size + 1, D, rfl, by omega, HDW.out.same (row_other (by omega)), below_setRow HBW.out (Nat.le_refl _) _⟩
end Go.Proofs.Ytgnbejemhdcemad

namespace Go.Proofs.Ytgnbejemhdcemad
open Go.RowKit Go.Maps

theorem seen_at {h g : List Op3} {i k : Nat} (hi : i < h.length) (hn : nameAt h i = nameAt g k) : seenB h g k = (srcN h i == srcN g k) := by
  rw [Bool.eq_iff_iff, seenB_iff, beq_iff_eq]
  constructor
  · rintro ⟨j, j1, j2, j3⟩
    rw [name_inj hi j1 (hn.trans j2.symm)]; exact j3
  · intro e
    exact ⟨i, hi, hn, e⟩
theorem seen_no {h g : List Op3} {k : Nat} (hn : ∀ i, i < h.length → nameAt h i ≠ nameAt g k) : seenB h g k = false := by
  cases hb : seenB h g k with
  | false => rfl
  | true =>
    obtain ⟨i, i1, i2, _⟩ := seenB_iff.1 hb
    exact absurd i2 (hn i i1)
theorem nm_zero (w : World) : (zeroValue 59).run Try.prog w = .ok (nmV zN) w := by kernel_rfl
theorem wpList_lookup_nm {ops : Array Oper} {rest : List Oper} {o : Oper} {a : Act} {w : World} {Q : Exit → Act → World → Prop} (hg : o.guard = none) (m x : Operand) (hop : o.op = Op.lookup 57 m x true)
    (b n : Nat) (D : DataW Unit) (hm : a.eval m = .map (some b)) (hown : w.ownsMap Try.prog 59 nmElem b n D) (key : Value) (kl : Lit) (hx : a.eval x = key) (hkey : keyOf Try.prog 59 key = some kl)
    (s : Nm) (hs : D.atKey kl (nmD zN) = nmD s) (q : Bool) (hq : Maps.has D kl = q) (hK : wpList Try.prog ops Q rest (a.put o.dst (.tuple #[nmV s, .bool q])) w) : wpList Try.prog ops Q (o :: rest) a w :=
  wpList_lookup_own_ok w hg m x _ hop 59 59 fLaw Try.underlying57 nmElem (nm_zero w) (nmD zN) [] (nmElem_mk zN) b n D hm hown key kl hx hkey (fun v ps hv => by
    rw [hs] at hv
    rw [nmElem_inv hv, hq]
    exact hK)

set_option maxHeartbeats 4000000 in
theorem viewIs1_any (h g : List Op3) (k M S : Nat) (f : Nat → Nm) (D : DataW Unit) (W : World) (hl : h.length ≤ 40) (hop : ∀ o ∈ h, isOpB o = true) (hl2 : g.length ≤ 40) (hop2 : ∀ o ∈ g, isOpB o = true) (hk : k < g.length) (hL : Looked W M h h.length D) (hS : SightAt W S M f) :
    Calls Try.prog 62 #[nmV (nameAt g k), nmV (srcN g k), .pointer (some ⟨S, 0, none⟩)] W fun e W' => e = .returned (.bool (seenB h g k)) ∧ Below W.heap.size W W' := by
  have hsn := small_name hl2 hop2 hk
  have hss := small_src hl2 hop2 (Nat.le_of_lt hk)
  have HK : Hid (keyOf Try.prog 59 (nmV (nameAt g k)) = some (nmL (nameAt g k))) := nm_key _ hsn
  have HOWN : Hid (W.ownsMap Try.prog 59 nmElem M h.length D) := hL.own
  have hc := hS.map
  have hcl := World.block_lt_of_cell? W _ hc
  simp only at hcl
  obtain ⟨hf1, hf2⟩ := hL.froms (nameAt g k) hsn
  by_cases hex : ∃ i, i < h.length ∧ nameAt h i = nameAt g k
  · obtain ⟨i, hi, hin⟩ := hex
    obtain ⟨hhas, hat⟩ := hf1 i hi hin
    have HSE : Hid (seenB h g k = (srcN h i == srcN g k)) := seen_at hi hin
    have hsi := small_src hl hop (Nat.le_of_lt hi)
    have HEQ : Hid (∀ W, (Op.equal 59 (nmV (srcN h i)) (nmV (srcN g k))).run Try.prog W = .ok (srcN h i == srcN g k) W) := fun W => eq_name _ _ hsi hss W
    obtain ⟨⟨⟨t, a, x⟩, m⟩, hnm⟩ : ∃ n, nameAt g k = n := ⟨_, rfl⟩
    obtain ⟨⟨⟨s1, s2, s3⟩, sm⟩, hsr⟩ : ∃ n, srcN g k = n := ⟨_, rfl⟩
    obtain ⟨⟨⟨r1, r2, r3⟩, rm⟩, hsr2⟩ : ∃ n, srcN h i = n := ⟨_, rfl⟩
    rw [hsr2] at hat
    rw [hsr, hsr2] at HEQ HSE
    rw [hnm] at HK hat hhas
    rw [hnm, hsr, HSE.out]
    have HAT : Hid (D.atKey (nmL ((t, a, x), m)) (nmD zN) = nmD ((r1, r2, r3), rm) ∧ Maps.has D (nmL ((t, a, x), m)) = true) := ⟨hat, hhas⟩
    clear hnm hsr hsr2 hat hhas hf1 hf2 hin hi hsi hss hsn HSE hop hop2 hL hS hk
    obtain ⟨q, hq⟩ : ∃ q, ((((r1, r2, r3), rm) : Nm) == ((s1, s2, s3), sm)) = q := ⟨_, rfl⟩
    rw [hq] at HEQ ⊢
    clear hq
    unfold nmV at HK HEQ ⊢
    simp only at HK HEQ ⊢
    go_enter Try.func62, Try.ntmps62
    go_wp2_with (first | (at_lookup; refine wpList_lookup_nm rfl (.tmp 10) (.tmp 11) rfl M h.length D rfl ((HOWN.out.alloc _).alloc _) (.agg #[.int .i64 t, .int .i64 a, .int .i64 x, .int .i64 m]) (nmL ((t, a, x), m)) rfl HK.out ((r1, r2, r3), rm) HAT.out.1 true HAT.out.2 ?_; unfold nmV; simp only) | refine wpList_eql_agg rfl 59 59 (.tmp 17) (.tmp 18) rfl #[.int .i64 r1, .int .i64 r2, .int .i64 r3, .int .i64 rm] #[.int .i64 s1, .int .i64 s2, .int .i64 s3, .int .i64 sm] rfl rfl nGuard q (HEQ.out _) ?_)
    go_ret
    exact ⟨rfl, (((Below.refl _ W).alloc (Nat.le_refl _) _).alloc (by simp) _).alloc (by simp; omega) _⟩
  · have hhas := hf2 fun i hi he => hex ⟨i, hi, he⟩
    have HSE : Hid (seenB h g k = false) := seen_no fun i hi he => hex ⟨i, hi, he⟩
    have hat := atKey_of_not_has hhas (nmD zN)
    obtain ⟨⟨⟨t, a, x⟩, m⟩, hnm⟩ : ∃ n, nameAt g k = n := ⟨_, rfl⟩
    obtain ⟨⟨⟨s1, s2, s3⟩, sm⟩, hsr⟩ : ∃ n, srcN g k = n := ⟨_, rfl⟩
    rw [hnm] at HK hat hhas
    rw [hnm, hsr, HSE.out]
    have HAT : Hid (D.atKey (nmL ((t, a, x), m)) (nmD zN) = nmD zN ∧ Maps.has D (nmL ((t, a, x), m)) = false) := ⟨hat, hhas⟩
    clear hnm hsr hat hhas hf1 hf2 hex hss hsn HSE hop hop2 hL hS hk
    unfold nmV at HK ⊢
    simp only at HK ⊢
    go_enter Try.func62, Try.ntmps62
    go_wp2_with (at_lookup; refine wpList_lookup_nm rfl (.tmp 10) (.tmp 11) rfl M h.length D rfl ((HOWN.out.alloc _).alloc _) (.agg #[.int .i64 t, .int .i64 a, .int .i64 x, .int .i64 m]) (nmL ((t, a, x), m)) rfl HK.out zN HAT.out.1 false HAT.out.2 ?_; unfold nmV zN; simp only)
    go_ret
    exact ⟨rfl, (((Below.refl _ W).alloc (Nat.le_refl _) _).alloc (by simp) _).alloc (by simp; omega) _⟩
theorem is1_call (args : Array Value) (W : World) : (callFunc 62 args).run Try.prog W = .ok (.enter 62 args) W := by
  kernel_rfl
theorem IsNames.below {w w1 : World} {B : Nat} {v : Value} {l : List Nm} (h : IsNames w v l) (hb : Below B w w1) (hB : w.heap.size ≤ B) : IsNames w1 v l := by
  obtain ⟨ad, b, off, cap, hv, ha, hbB, hat⟩ := h
  have hs := hb.size
  refine ⟨ad, b, off, cap, hv, ha, ?_, hat.below hb ?_⟩
  · rcases hbB with h | h
    · exact .inl (by omega)
    · exact .inr h
  · rcases hbB with h | h
    · exact .inl (by omega)
    · exact .inr h
theorem sight_no {h g : List Op3} {k : Nat} (hk : k < g.length) (hn : seenB h g k = false) : sightB h g = false := by
  cases hb : sightB h g with
  | false => rfl
  | true => rw [(sightB_iff.1 hb).2.1 k hk] at hn; cases hn
theorem sight_len {h g : List Op3} (hn : g.length ≠ h.length) : sightB h g = false := by
  cases hb : sightB h g with
  | false => rfl
  | true => exact absurd (sightB_iff.1 hb).1 hn
theorem sight_left {h g : List Op3} (hl : g.length = h.length) (hs : ∀ k, k < g.length → seenB h g k = true) : sightB h g = leftB h g := by
  rw [Bool.eq_iff_iff, sightB_iff]
  exact ⟨fun h => h.2.2, fun h => ⟨hl, hs, h⟩⟩
theorem left_iff {h g : List Op3} : leftB h g = true ↔ ∀ x, x < 7 → lastF h h.length x = lastF g g.length x := leftB_iff

theorem wpList_load_row' {P : Program} {ops : Array Oper} {rest : List Oper} {o : Oper} {a : Act} {w : World} {Q : Exit → Act → World → Prop} (hw : Region.wanted o (yielded ops a.tmps) = true) (ty : TypeId) (x : Operand) (ho : o.op = .load ty x)
    (g : Nat) (hx : a.eval x = .pointer (some ⟨g, 0, none⟩)) (t : TypeId) (cs : Array Value) (fr : Nat × Nat) (d : TypeDesc) (hg : w.heap[g]? = some (.cells cs t fr))
    (hu : P.underlying ty = some d) (hd : (match d with | .struct _ | .array _ _ => true | _ => false) = true) (hi : (P.info? ty).map (·.size) = some cs.size)
    (h : wpList P ops Q rest (a.put o.dst (.agg cs)) w) : wpList P ops Q (o :: rest) a w :=
  Go.BigFrame.wpList_want hw fun _ hK => wp_load_row ty x ho g hx t cs fr d hg hu hd hi (hK _ _ h)
theorem wpList_load_mid' {P : Program} {ops : Array Oper} {rest : List Oper} {op : Oper} {a : Act} {w : World} {Q : Exit → Act → World → Prop} (hw : Region.wanted op (yielded ops a.tmps) = true) (ty : TypeId) (x : Operand) (ho : op.op = .load ty x)
    (b o : Nat) (hx : a.eval x = .pointer (some ⟨b, o, none⟩)) (cs : List Value) (d : TypeDesc) (hc : w.rangeAt b o cs)
    (hu : P.underlying ty = some d) (hd : d.isRow = true) (hi : (P.info? ty).map (·.size) = some cs.length)
    (h : wpList P ops Q rest (a.put op.dst (.agg cs.toArray)) w) : wpList P ops Q (op :: rest) a w :=
  Go.BigFrame.wpList_want hw fun _ hK => wp_load_mid ty x ho b o hx cs d hc hu hd hi (hK _ _ h)
theorem small_lastF {l : List Op3} {k : Nat} (hl : l.length ≤ 40) (hop : ∀ o ∈ l, isOpB o = true) (hk : k ≤ l.length) : ∀ x, x < 7 → Small (lastF l k x) := fun _ _ => small_last hl hop hk _

set_option maxHeartbeats 8000000 in
set_option maxRecDepth 100000 in
theorem viewIs_any (h g : List Op3) (M : Nat) (D : DataW Unit) (nv : Value) (w : World) (hl : h.length ≤ 40) (hop : ∀ o ∈ h, isOpB o = true) (hl2 : g.length ≤ 40) (hop2 : ∀ o ∈ g, isOpB o = true) (hL : Looked w M h h.length D) (hN : IsNames w nv (namesTo g g.length)) :
    Calls Try.prog 34 #[.agg (cells29 M (lastF h h.length)), nv] w fun e w' => e = .returned (.bool (sightB h g)) ∧ Below w.heap.size w w' := by
  have HOP : Hid ((∀ o ∈ h, isOpB o = true) ∧ (∀ o ∈ g, isOpB o = true)) := ⟨hop, hop2⟩
  have HN : Hid (∀ W, Below w.heap.size w W → IsNames W nv (namesTo g g.length)) := fun W hW => hN.below hW (Nat.le_refl _)
  have HL : Hid (∀ W, Below w.heap.size w W → Looked W M h h.length D) := fun W hW => hL.same (hW.block _ hL.own.lt)
  have hMl := hL.own.lt
  obtain ⟨ad, b, off, cap, hv, -, -, -⟩ := hN
  rw [namesTo_len] at hv
  subst hv
  clear hop hop2 hL
  go_enter Try.func34, Try.ntmps34
  go_upto_region 1 with (fail)
  obtain ⟨W0, hW0⟩ : ∃ W0, W0 = w.alloc (.cells (cells29 M (lastF h h.length)) 63) := ⟨_, rfl⟩
  rw [← hW0]
  have HS0 : Hid (SightAt W0 w.heap.size M (lastF h h.length)) := by rw [hW0]; exact sight_box _ _ _
  have hB0 : Below w.heap.size w W0 := by rw [hW0]; exact (Below.refl _ w).alloc (Nat.le_refl _) _
  have hs0 : w.heap.size < W0.heap.size := HS0.out.lt
  have c0 := HS0.out.map
  have HLD : Hid (Looked W0 M h h.length D) := HL.out W0 hB0
  have HB0 : Hid (Below w.heap.size w W0) := hB0
  have HN0 : Hid (IsNames W0 (.slice ad g.length cap) (namesTo g g.length)) := HN.out W0 hB0
  obtain ⟨es, clock, hes⟩ := map_block HLD.out.own
  have HES : Hid (W0.heap[M]? = some (.map es clock)) := hes
  clear hW0 hB0 HL HN hes
  by_cases hlen : g.length = h.length
  · have hne : ((g.length : Int) != (h.length : Int)) = false := by rw [hlen]; simp
    have HLEN : Hid (g.length = h.length) := hlen
    clear hlen
    go_wp2_with (at_len; refine wpList_len_own _ rfl (.tmp 10) 57 rfl 59 59 Try.underlying57 nmElem M h.length D rfl HLD.out.own ?_; rw [HLD.out.size])
    refine (follow_any g _ _ 62 M es clock W0 (fun _ W => W.heap[M]? = W0.heap[M]?) (seenB h g) is1_call HN0.out hl2 HOP.out.2 HES.out rfl (fun _ _ _ h hb => hb.trans h) ?_).mono ?_
    · intro k hk W hin hsv
      refine (viewIs1_any h g k M w.heap.size (lastF h h.length) D W hl HOP.out.1 hl2 HOP.out.2 hk (HLD.out.same hin) (HS0.out.same (hsv.block _ hs0 (by omega)))).mono ?_
      rintro e W' ⟨he, hb⟩
      exact ⟨he, (hb.block M (by have := hsv.size; omega)).trans hin, Save.of_below hb⟩
    rintro e w1 ⟨k, hk, hall, hno, rfl, hin, hsv⟩
    have hB1 : Below W0.heap.size W0 w1 := hsv.below hin
    have HB1 : Hid (Below w.heap.size w w1) := HB0.out.trans (hB1.mono (by omega))
    have HS1 : Hid (SightAt w1 w.heap.size M (lastF h h.length)) := HS0.out.below hB1 hs0
    have hs1 : w.heap.size < w1.heap.size := HS1.out.lt
    have HF1 : Hid (LastAt (w1.alloc (.cells (cells28 fun _ => zN) 61)) w1.heap.size (fun _ => zN)) := last_box _ _
    clear hin hsv hB1 c0 HS0 HLD HB0 HN0 HES
    by_cases hkg : k = g.length
    · have HSI : Hid (sightB h g = leftB h g) := sight_left HLEN.out fun j hj => hall j (by omega)
      rw [show decide (k = g.length) = true from decide_eq_true hkg]
      obtain ⟨r, hr, hiff⟩ : ∃ r : Bool, (∀ W, (Op.equal 61 (.agg (cells28 (lastF g g.length))) (.agg (cells28 (lastF h h.length)))).run Try.prog W = .ok r W) ∧ r = leftB h g := by
        refine ⟨leftB h g, fun W => ?_, rfl⟩
        obtain ⟨r, hr, hiff⟩ := eq_last (lastF g g.length) (lastF h h.length) (small_lastF hl2 HOP.out.2 (Nat.le_refl _)) (small_lastF hl HOP.out.1 (Nat.le_refl _)) W
        rw [hr]
        congr 1
        rw [Bool.eq_iff_iff, hiff, left_iff]
        exact ⟨fun h x hx => (h x hx).symm, fun h x hx => (h x hx).symm⟩
      have HSR : Hid (sightB h g = r) := by show sightB h g = r; rw [HSI.out, hiff]
      have HR : Hid (∀ W, (Op.equal 61 (.agg (cells28 (lastF g g.length))) (.agg (cells28 (lastF h h.length)))).run Try.prog W = .ok r W) := hr
      subst hkg
      clear hall hno hk hr hiff HSI
      go_upto_region 4 with (first | refine wpList_store_row rfl 61 (.tmp 5) (.tmp 17) rfl w1.heap.size (cells28 (lastF g g.length)) rfl rfl 61 (cells28 fun _ => zN) HF1.out (last_info' _) (by rw [cells28_size, cells28_size]) (cells28_one _) ?_ | fail)
      refine last_split w1 _ _ rfl ?_
      intro W hLW hBW
      have HLW : Hid (LastAt W w1.heap.size (lastF g g.length)) := hLW
      have HSW : Hid (SightAt W w.heap.size M (lastF h h.length)) := HS1.out.below hBW hs1
      have HBW : Hid (Below w.heap.size w W) := HB1.out.trans (hBW.mono (by omega))
      clear hLW hBW HF1 HS1 HB1
      go_wp2_with (first | refine wpList_load_row' rfl 61 (.tmp 5) rfl w1.heap.size rfl 61 (cells28 (lastF g g.length)) (0, 0) _ HLW.out Try.underlying61 rfl (last_info' _) ?_ | refine wpList_load_mid' rfl 61 (.tmp 22) rfl w.heap.size 1 rfl (cells28 (lastF h h.length)).toList _ HSW.out.range Try.underlying61 rfl (by rw [Array.length_toList, cells28_size]; exact last_info) ?_ | refine wpList_eql_agg rfl 61 61 (.tmp 21) (.tmp 23) rfl (cells28 (lastF g g.length)) (cells28 (lastF h h.length)) rfl rfl wGuard r (HR.out _) ?_)
      go_ret
      exact ⟨by rw [HSR.out]; rfl, HBW.out⟩
    · have HSI : Hid (sightB h g = false) := sight_no (by omega) (hno (by omega))
      rw [show decide (k = g.length) = false from decide_eq_false hkg]
      clear hall hno hkg
      go_upto_region 4 with (first | refine wpList_store_row rfl 61 (.tmp 5) (.tmp 17) rfl w1.heap.size (cells28 (lastF g k)) rfl rfl 61 (cells28 fun _ => zN) HF1.out (last_info' _) (by rw [cells28_size, cells28_size]) (cells28_one _) ?_ | fail)
      refine last_split w1 _ _ rfl ?_
      intro W hLW hBW
      have HBW : Hid (Below w.heap.size w W) := HB1.out.trans (hBW.mono (by omega))
      clear hLW hBW HF1 HS1 HB1
      go_wp2_with fail
      go_ret
      exact ⟨by rw [HSI.out]; rfl, HBW.out⟩
  · have hne : ((g.length : Int) != (h.length : Int)) = true := by simp; omega
    have HSI : Hid (sightB h g = false) := sight_len hlen
    clear hlen
    go_wp2_with (at_len; refine wpList_len_own _ rfl (.tmp 10) 57 rfl 59 59 Try.underlying57 nmElem M h.length D rfl HLD.out.own ?_; rw [HLD.out.size])
    go_ret
    exact ⟨by rw [HSI.out]; rfl, HB0.out⟩
end Go.Proofs.Ytgnbejemhdcemad

namespace Go.Proofs.Ytgnbejemhdcemad
open Go.RowKit Go.Maps

theorem nms_bad (l : List Op3) (v : Value) (w : World) (h : IsOps w v l) (hc : (chk l).2 ≠ 0) :
    Calls Try.prog 32 #[v] w fun e w' => e = .returned (.tuple #[.slice none 0 0, .iface 75 (.int .i64 (chk l).2)]) ∧ Below w.heap.size w w' := by
  go_enter Try.func32, Try.ntmps32
  go_wp2_with (go_at_call 19; refine (check_bad l _ _ h hc).mono ?_; rintro e w1 ⟨rfl, hb1⟩)
  go_ret2
  exact ⟨rfl, hb1⟩
theorem nms_ok (l : List Op3) (v : Value) (w : World) (h : IsOps w v l) (hc : (chk l).2 = 0) :
    Calls Try.prog 32 #[v] w fun e w' => ∃ v', e = .returned (.tuple #[v', .nilIface]) ∧ IsNames w' v' (namesTo l l.length) ∧ Below w.heap.size w w' := by
  have hl := chk_len hc
  have HT : Hid (∀ o ∈ l, 1 ≤ o.1 ∧ o.1 ≤ 6) := fun o ho => isOp_tx (chk_ops hc o ho)
  go_enter Try.func32, Try.ntmps32
  go_wp2_with fail
  refine (check_ok l _ _ h hc).mono ?_
  rintro e w1 ⟨rfl, hb1⟩
  have hI1 := h.below hb1 (Nat.le_refl _)
  clear hc h
  go_wp2_with fail
  refine (onames_any l _ _ hI1 hl HT.out).mono ?_
  rintro e w2 ⟨v2, rfl, hN2, hb2⟩
  have HN2 : Hid (IsNames w2 v2 (namesTo l l.length)) := hN2
  have hb02 := hb1.trans (hb2.mono hb1.size)
  clear hN2 hb1 hb2 hI1
  go_wp2_with fail
  go_ret2
  exact ⟨_, rfl, HN2.out, hb02⟩
theorem isNames_len {w : World} {v : Value} {d : List Op3} (h : IsNames w v (namesTo d d.length)) : ∃ ad cap, v = .slice ad d.length cap := by
  obtain ⟨ad, b, off, cap, hv, -⟩ := h
  rw [namesTo_len] at hv
  exact ⟨ad, cap, hv⟩
theorem sight_split {c : Code} {Q : Exit → Act → World → Prop} {a : Act} (w : World) (Z : Array Value) (M : Nat) (f : Nat → Nm) (hZ : zero29 = Z) (h : ∀ W, SightAt W w.heap.size M f → Below w.heap.size w W → Code.wp Try.prog c Q a W) :
    Code.wp Try.prog c Q a ((w.alloc (.cells Z 63)).setRow w.heap.size (cells29 M f)) := by
  subst hZ
  exact h _ (setRow_heap _ _ _ _ _ _ (heap_alloc_new _ _)) (below_setRow ((Below.refl _ w).alloc (Nat.le_refl _) _) (Nat.le_refl _) _)
end Go.Proofs.Ytgnbejemhdcemad

namespace Go.Proofs.Ytgnbejemhdcemad
open Go.RowKit Go.Maps

theorem dnames_bad (l : List Op3) (v : Value) (w : World) (h : IsOps w v l) (hc : (chk l).2 ≠ 0) :
    Calls Try.prog 24 #[v] w fun e w' => e = .returned (.tuple #[.slice none 0 0, .iface 75 (.int .i64 (chk l).2)]) ∧ Below w.heap.size w w' := by
  go_enter Try.func24, Try.ntmps24
  go_wp2_with (go_at_call 15; refine (done_bad l _ _ h hc).mono ?_; rintro e w1 ⟨rfl, hb1⟩)
  go_ret2
  exact ⟨rfl, hb1⟩
theorem dnames_ok (l : List Op3) (v : Value) (w : World) (h : IsOps w v l) (hc : (chk l).2 = 0) :
    Calls Try.prog 24 #[v] w fun e w' => ∃ v', e = .returned (.tuple #[v', .nilIface]) ∧ IsNames w' v' (namesTo (doneL l) (doneL l).length) ∧ Below w.heap.size w w' := by
  have HD : Hid ((chk (doneL l)).2 = 0) := chk_done hc
  go_enter Try.func24, Try.ntmps24
  go_wp2_with fail
  refine (done_ok l _ _ h hc).mono ?_
  rintro e w1 ⟨v1, rfl, hI1, hb1⟩
  have HI1 : Hid (IsOps w1 v1 (doneL l)) := hI1
  clear hI1 h hc
  go_wp2_with fail
  refine (nms_ok (doneL l) _ _ HI1.out HD.out).mono ?_
  rintro e w2 ⟨v2, rfl, hN2, hb2⟩
  have HN2 : Hid (IsNames w2 v2 (namesTo (doneL l) (doneL l).length)) := hN2
  have hb02 := hb1.trans (hb2.mono hb1.size)
  clear hN2 hb1 hb2
  go_wp2_with fail
  go_ret2
  exact ⟨_, rfl, HN2.out, hb02⟩
theorem vsame_bad (h : List Op3) (v u : Value) (w : World) (hI : IsOps w v h) (hc : (chk h).2 ≠ 0) :
    Calls Try.prog 11 #[v, u] w fun e w' => e = .returned (.tuple #[.bool false, .iface 75 (.int .i64 (chk h).2)]) ∧ Below w.heap.size w w' := by
  go_enter Try.func11, Try.ntmps11
  go_wp2_with (go_at_call 24; refine (dnames_bad h _ _ hI hc).mono ?_; rintro e w1 ⟨rfl, hb1⟩)
  go_ret2
  exact ⟨rfl, hb1⟩
theorem vsame_bad2 (h g : List Op3) (v u : Value) (w : World) (hI : IsOps w v h) (hJ : IsOps w u g) (hc : (chk h).2 = 0) (hd : (chk g).2 ≠ 0) :
    Calls Try.prog 11 #[v, u] w fun e w' => e = .returned (.tuple #[.bool false, .iface 75 (.int .i64 (chk g).2)]) ∧ Below w.heap.size w w' := by
  go_enter Try.func11, Try.ntmps11
  go_wp2_with fail
  refine (dnames_ok h _ _ hI hc).mono ?_
  rintro e w1 ⟨v1, rfl, hN1, hb1⟩
  obtain ⟨ad, cap, rfl⟩ := isNames_len hN1
  clear hN1
  go_wp2_with fail
  refine (dnames_bad g _ _ (hJ.below hb1 (Nat.le_refl _)) hd).mono ?_
  rintro e w2 ⟨rfl, hb2⟩
  go_wp2_with fail
  go_ret2
  exact ⟨rfl, hb1.trans (hb2.mono hb1.size)⟩
set_option maxHeartbeats 4000000 in
theorem vsame_ok (h g : List Op3) (v u : Value) (w : World) (hI : IsOps w v h) (hJ : IsOps w u g) (hc : (chk h).2 = 0) (hd : (chk g).2 = 0) :
    Calls Try.prog 11 #[v, u] w fun e w' => e = .returned (.tuple #[.bool (sightB (doneL h) (doneL g)), .nilIface]) ∧ Below w.heap.size w w' := by
  have HC1 : Hid ((chk (doneL h)).2 = 0) := chk_done hc
  have HC2 : Hid ((chk (doneL g)).2 = 0) := chk_done hd
  have HJ : Hid (IsOps w u g) := hJ
  have HD : Hid ((chk g).2 = 0) := hd
  go_enter Try.func11, Try.ntmps11
  go_wp2_with fail
  refine (dnames_ok h _ _ hI hc).mono ?_
  rintro e w1 ⟨v1, rfl, hN1, hb1⟩
  obtain ⟨ad, cap, rfl⟩ := isNames_len hN1
  have HN1 : Hid (IsNames w1 (.slice ad (doneL h).length cap) (namesTo (doneL h) (doneL h).length)) := hN1
  clear hN1 hc hd hI hJ
  go_wp2_with fail
  refine (dnames_ok g _ _ (HJ.out.below hb1 (Nat.le_refl _)) HD.out).mono ?_
  rintro e w2 ⟨v2, rfl, hN2, hb2⟩
  obtain ⟨ad2, cap2, rfl⟩ := isNames_len hN2
  have HN2 : Hid (IsNames w2 (.slice ad2 (doneL g).length cap2) (namesTo (doneL g) (doneL g).length)) := hN2
  have HN12 : Hid (IsNames w2 (.slice ad (doneL h).length cap) (namesTo (doneL h) (doneL h).length)) := HN1.out.below hb2 (Nat.le_refl _)
  have hb02 := hb1.trans (hb2.mono hb1.size)
  clear hN2 hb1 hb2
  go_wp2_with fail
  refine (look_any (doneL h) _ _ HN12.out (chk_len HC1.out) (chk_ops HC1.out)).mono ?_
  rintro e w3 ⟨M, D, rfl, hM, hL3, hb3⟩
  have HL3 : Hid (Looked w3 M (doneL h) (doneL h).length D) := hL3
  have HN3 : Hid (IsNames w3 (.slice ad2 (doneL g).length cap2) (namesTo (doneL g) (doneL g).length)) := HN2.out.below hb3 (Nat.le_refl _)
  have hb03 := hb02.trans (hb3.mono hb02.size)
  clear hL3 hb3 hM
  go_wp2_with fail
  refine (viewIs_any (doneL h) (doneL g) M D _ _ (chk_len HC1.out) (chk_ops HC1.out) (chk_len HC2.out) (chk_ops HC2.out) HL3.out HN3.out).mono ?_
  rintro e w4 ⟨rfl, hb4⟩
  go_wp2_with fail
  go_ret2
  exact ⟨rfl, hb03.trans (hb4.mono hb03.size)⟩
end Go.Proofs.Ytgnbejemhdcemad
