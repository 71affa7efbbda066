/-
  PROVED HERE: view.Reads gives each Read of what is done and from whom it reads, view.Last who wrote each item last; of a wrong list Check's error. Old memory stays as it was.
  Conditions: none.
  PROVED HERE: plain facts, with no word of the program: a run as package course goes over it (who is done; how many were when a deal began; what each read and wrote), by any two rules; if the rules answer as a kind of run (chapters 11 to 13) has it, it comes to the same.
  Conditions: none.
  PROVED HERE: how a table of locks (two lists in rows of its own) lies in memory, and what of it stands when only some blocks have turned.
  Conditions: none.
  PROVED HERE: a map from whole numbers to whatever it holds, as package strict keeps three of them, said key by key: what is looked up, laid in, struck out, counted, met one by one.
  Conditions: its keys are 1 to 6.
-/
import Derived.Test.YtccjognnehoodahGreatMgav
import Derived.Test.YtccjognnehoodahGreatMgaf
import Derived.Test.YtccjognnehoodahGreatMgak
import Derived.Test.YtccjognnehoodahGreatMgad
import Derived.Test.YtccjognnehoodahGreatMgab
import Derived.OwnWalk
import Derived.Laws.Rows
import Derived.Test.YtccjognnehoodahGreatMgag
import Derived.Maps.OwnSet
import Derived.Maps.RangeWalk
namespace Go.Proofs.YtccjognnehoodahGreat
open Go.RowKit Go.Maps

theorem infoSrc : (Tryz.prog.info? 49).map (fun i => (i.zero, i.size, i.bytes)) = some (some (.agg #[.int .i64 0, .int .i64 0]), 2, 16) := by kernel_rfl
theorem one_src (w : World) (t a : Int) : ∀ j u, (flatE [(t, a)])[j]? = some u → (w.alloc (.cells #[.int .i64 t, .int .i64 a] 49)).cell? ((⟨w.heap.size, 0, none⟩ : Addr).add j) = some u := by
  intro j u hj
  match j, hj with
  | 0, hj => simp [flatE] at hj; subst hj; simp [Addr.add]
  | 1, hj => simp [flatE] at hj; subst hj; simp [Addr.add]
  | k + 2, hj => simp [flatE] at hj
theorem one_src2 (w : World) (o : Obj) (t a : Int) : ∀ j u, (flatE [(t, a)])[j]? = some u → ((w.alloc o).alloc (.cells #[.int .i64 t, .int .i64 a] 49)).cell? ((⟨w.heap.size + 1, 0, none⟩ : Addr).add j) = some u := by
  intro j u hj
  have h := one_src (w.alloc o) t a j u hj
  rw [show (w.alloc o).heap.size = w.heap.size + 1 by simp] at h
  exact h
theorem wpList_lookup_nm0 {ops : Array Oper} {rest : List Oper} {o : Oper} {a : Act} {w : World} {Q : Exit → Act → World → Prop} (hg : o.guard = none) (m x : Operand) (hop : o.op = Op.lookup 95 m x false)
    (b n : Nat) (D : DataW Unit) (hm : a.eval m = .map (some b)) (hown : w.ownsMap Tryz.prog 97 nmElem b n D) (key : Value) (kl : Lit) (hx : a.eval x = key) (hkey : keyOf Tryz.prog 97 key = some kl)
    (s : Nm) (hs : D.atKey kl (nmD zN) = nmD s) (hK : wpList Tryz.prog ops Q rest (a.put o.dst (nmV s)) w) : wpList Tryz.prog ops Q (o :: rest) a w := by
  refine wpList_plain hg fun K' hK' => ?_
  obtain ⟨v, ps, hrun, hv⟩ := hown.lookup fLaw Tryz.underlying95 (nm_zero w) (nmElem_mk zN) hkey
  rw [hs] at hv
  rw [nmElem_inv hv] at hrun
  unfold Oper.wp
  simp [execOp, hop, hm, hx, hrun, Result.andThen]
  exact hK' _ _ hK
theorem field_name (p q r s : Int) (W : World) : (Instr.field 97 (.agg #[.int .i64 p, .int .i64 q, .int .i64 r, .int .i64 s]) 0).run Tryz.prog W = .ok (.agg #[.int .i64 p, .int .i64 q, .int .i64 r]) W := by kernel_rfl
theorem field_op (p q r : Int) (W : World) : (Instr.field 51 (.agg #[.int .i64 p, .int .i64 q, .int .i64 r]) 0).run Tryz.prog W = .ok (.int .i64 p) W := by kernel_rfl
theorem vreads_bad (l : List Op3) (v : Value) (w : World) (h : IsOps w v l) (hc : (chk l).2 ≠ 0) :
    Calls Tryz.prog 13 #[v] w fun e w' => e = .returned (.tuple #[.slice none 0 0, .iface 61 (.int .i64 (chk l).2)]) ∧ Below w.heap.size w w' := by
  go_enter Tryz.func13, Tryz.ntmps13
  go_wp2_with (go_at_call 41; refine (dnames_bad l _ _ h hc).mono ?_; rintro e w1 ⟨rfl, hb1⟩)
  go_ret2
  exact ⟨rfl, hb1⟩
theorem names_at {W : World} {ad : Option Addr} {cap : Nat} {d : List Op3} (h : IsNames W (.slice ad d.length cap) (namesTo d d.length)) :
    ∃ b off, ∀ W', Below W.heap.size W W' → ∀ k, k < d.length → ad = some ⟨b, off, none⟩ ∧ W'.cell? ⟨b, off + k * 4, none⟩ = some (.int .i64 (nameAt d k).1.1) ∧ W'.cell? ⟨b, off + k * 4 + 1, none⟩ = some (.int .i64 (nameAt d k).1.2.1) ∧ W'.cell? ⟨b, off + k * 4 + 2, none⟩ = some (.int .i64 (nameAt d k).1.2.2) ∧ W'.cell? ⟨b, off + k * 4 + 3, none⟩ = some (.int .i64 (nameAt d k).2) := by
  obtain ⟨ad', b, off, cap', he, ha, hbB, hat⟩ := h
  simp only [Value.slice.injEq] at he
  obtain ⟨rfl, -, rfl⟩ := he
  refine ⟨b, off, fun W' hW k hk => ?_⟩
  have h1 := (hat.below hW hbB) k (by rw [namesTo_len]; exact hk)
  rw [nmAt_names d _ k hk] at h1
  exact ⟨ha (by rw [namesTo_len]; omega), h1⟩
set_option maxHeartbeats 8000000 in
set_option maxRecDepth 100000 in
theorem vreads_ok (l : List Op3) (v : Value) (w : World) (h : IsOps w v l) (hc : (chk l).2 = 0) :
    Calls Tryz.prog 13 #[v] w fun e w' => ∃ v', e = .returned (.tuple #[v', .nilIface]) ∧ IsEdges w' v' (readsTo (doneL l) (doneL l).length) ∧ Below w.heap.size w w' := by
  have hdn := dnames_ok l v w h hc
  have hcd := chk_done hc
  obtain ⟨d, hd⟩ : ∃ d, doneL l = d := ⟨_, rfl⟩
  rw [hd] at hdn hcd ⊢
  have hl := chk_len hcd
  have HOP : Hid (∀ o ∈ d, isOpB o = true) := chk_ops hcd
  have HDN : Hid (Calls Tryz.prog 41 #[v] w fun e w' => ∃ v', e = .returned (.tuple #[v', .nilIface]) ∧ IsNames w' v' (namesTo d d.length) ∧ Below w.heap.size w w') := hdn
  obtain ⟨i0, hi, hz0, hs0, hy0⟩ := info_parts infoSrc
  have HI : Hid (Tryz.prog.info? 49 = some i0 ∧ i0.zero = some (.agg #[.int .i64 0, .int .i64 0]) ∧ i0.size = 2 ∧ i0.bytes = 16) := ⟨hi, hz0, hs0, hy0⟩
  clear hdn hcd hd h hc hi hz0 hs0 hy0
  go_enter Tryz.func13, Tryz.ntmps13
  go_wp2_with fail
  refine HDN.out.mono ?_
  rintro e w1 ⟨v1, rfl, hN1, hb1⟩
  obtain ⟨ad, cap, rfl⟩ := isNames_len hN1
  have HN1 : Hid (IsNames w1 (.slice ad d.length cap) (namesTo d d.length)) := hN1
  clear hN1
  go_wp2_with fail
  refine (look_any d _ _ HN1.out hl HOP.out).mono ?_
  rintro e w2 ⟨M, D, rfl, hM, hL2, hb2⟩
  have HB2 : Hid (Below w.heap.size w w2) := hb1.trans (hb2.mono hb1.size)
  have HL2 : Hid (Looked w2 M d d.length D) := hL2
  have HN2 : Hid (IsNames w2 (.slice ad d.length cap) (namesTo d d.length)) := HN1.out.below hb2 (Nat.le_refl _)
  have HF2 : Hid ((w2.alloc (.cells zero29 101)).heap[w2.heap.size]? = some (.cells zero29 101 (0, 0))) := heap_alloc_new _ _
  clear hL2 hb1 hb2 hM HN1
  go_upto_region 5 with (first | refine wpList_store_row rfl 101 (.tmp 6) (.tmp 19) rfl w2.heap.size (cells29 M (lastF d d.length)) rfl rfl 101 zero29 HF2.out (sight_info' _ _) (by rw [cells29_size, zero29_size]) (cells29_one _ _) ?_ | fail)
  refine sight_split w2 _ _ _ rfl ?_
  intro W hSW hBW
  have hMl := HL2.out.own.lt
  have HS : Hid (SightAt W w2.heap.size M (lastF d d.length)) := hSW
  have HL : Hid (Looked W M d d.length D) := HL2.out.same (hBW.block _ hMl)
  have HB : Hid (Below w.heap.size w W) := HB2.out.trans (hBW.mono HB2.out.size)
  have hNW := HN2.out.below hBW (Nat.le_refl _)
  obtain ⟨b, off, hcel⟩ := names_at hNW
  have HC : Hid (∀ W', Below W.heap.size W W' → ∀ k, k < d.length → ad = some ⟨b, off, none⟩ ∧ W'.cell? ⟨b, off + k * 4, none⟩ = some (.int .i64 (nameAt d k).1.1) ∧ W'.cell? ⟨b, off + k * 4 + 1, none⟩ = some (.int .i64 (nameAt d k).1.2.1) ∧ W'.cell? ⟨b, off + k * 4 + 2, none⟩ = some (.int .i64 (nameAt d k).1.2.2) ∧ W'.cell? ⟨b, off + k * 4 + 3, none⟩ = some (.int .i64 (nameAt d k).2)) := hcel
  have hSl := HS.out.lt
  have hML := HL.out.own.lt
  clear hcel hNW hSW hBW HF2 HN2 HB2 HL2 hMl
  go_wp2_with fail
  go_loopw [7, 22] (fun v7 v22 wr => ∃ k : Nat, k ≤ d.length ∧ v22 = .int .i64 k ∧ wr.ownsRow W.heap.size 49 2 v7 (readsTo d k).length (flatE (readsTo d k)) ∧ Below W.heap.size W wr) (fun _ v22 _ => d.length - (intOf v22).toNat)
  case atStart => exact ⟨0, Nat.zero_le _, rfl, World.ownsRow_nil _ _ _ _, Below.refl _ _⟩
  case round =>
    obtain ⟨k, hk, rfl, hown, hbel⟩ := hrel
    have hsz := hbel.size
    by_cases hlt : k < d.length
    · have hlt' : (k : Int) < (d.length : Int) := by omega
      obtain ⟨hadr, c0, c1, c2, c3⟩ := HC.out wr hbel k hlt
      subst hadr
      have hsm := small_name hl HOP.out hlt
      obtain ⟨hf1, -⟩ := HL.out.froms (nameAt d k) hsm
      obtain ⟨-, hat⟩ := hf1 k hlt rfl
      have hkey := nm_key _ hsm
      obtain ⟨⟨⟨t, a, x⟩, m⟩, hnm⟩ : ∃ n, nameAt d k = n := ⟨_, rfl⟩
      have ho : opAt d k = (t, a, x) := congrArg Prod.fst hnm
      rw [hnm] at c0 c1 c2 c3 hat hkey
      simp only at c0 c1 c2 c3
      have HKEY : Hid (keyOf Tryz.prog 97 (.agg #[.int .i64 t, .int .i64 a, .int .i64 x, .int .i64 m]) = some (nmL ((t, a, x), m))) := hkey
      obtain ⟨n1, hn1⟩ : ∃ n1, (readsTo d k).length = n1 := ⟨_, rfl⟩
      have hn1b : n1 ≤ 40 := by rw [← hn1]; have := readsTo_len d k; omega
      have HN1 : Hid ((readsTo d k).length = n1) := hn1
      rw [hn1] at hown
      have HOWN : Hid (wr.ownsRow W.heap.size 49 2 u7 n1 (flatE (readsTo d k))) := hown
      have HO : Hid (opAt d k = (t, a, x)) := ho
      clear hnm ho hsm hf1 hkey hown hn1
      by_cases ha1 : a = 1
      · subst ha1
        obtain ⟨⟨⟨s1, s2, s3⟩, sm⟩, hsr⟩ : ∃ n, srcN d k = n := ⟨_, rfl⟩
        rw [hsr] at hat
        have HAT : Hid (D.atKey (nmL ((t, 1, x), m)) (nmD zN) = nmD ((s1, s2, s3), sm)) := hat
        have HRD : Hid (readsTo d (k + 1) = readsTo d k ++ [((k : Int), s1)]) := by
          show readsTo d (k + 1) = readsTo d k ++ [((k : Int), s1)]
          rw [readsTo, HO.out, if_pos rfl]
          have h1 : lastW d k x = ((s1, s2, s3), sm) := by rw [← hsr]; unfold srcN; rw [HO.out, if_pos rfl]
          simp only [h1]
        have HM : Hid (wr.ownsMap Tryz.prog 97 nmElem M d.length D) := (HL.out.same (hbel.block _ hML)).own
        have s0 : wr.cell? ⟨w2.heap.size, 0, none⟩ = some (.map (some M)) := (HS.out.below hbel hSl).map
        have hsl : w2.heap.size < wr.heap.size := by omega
        clear hsr hat
        have hf1 := field_name s1 s2 s3 sm
        have hf2 := field_op s1 s2 s3
        go_wp2_with (first | (at_lookup; refine wpList_lookup_nm0 rfl (.tmp 34) (.tmp 35) rfl M d.length D rfl (HM.out.alloc _) (.agg #[.int .i64 t, .int .i64 1, .int .i64 x, .int .i64 m]) (nmL ((t, 1, x), m)) rfl HKEY.out ((s1, s2, s3), sm) HAT.out ?_; unfold nmV; simp only) | (at_builtin; refine wpList_append_own _ rfl (.tmp 31) (.tmp 40) 40 rfl W.heap.size 49 i0 (.agg #[.int .i64 0, .int .i64 0]) 2 16 Tryz.underlying40 HI.out.1 HI.out.2.1 HI.out.2.2.1 HI.out.2.2.2 rfl (by decide) u7 n1 (flatE (readsTo d k)) rfl ((HOWN.out.alloc _).alloc _) ⟨wr.heap.size + 1, 0, none⟩ 1 1 (flatE [((k : Int), s1)]) rfl rfl (one_src2 wr _ k s1) (flatE_one _) (by unfold maxLen; omega) (by omega) (by simp; omega) ?_; intro v4 w4 hown4 hgr4 hnil4))
        have hB4 := ((hbel.alloc hsz _).alloc (by simp; omega) _).grown hgr4 (by simp; omega) (fun q hq => (HOWN.out.lt q hq).1)
        go_roundw
        case rel => exact ⟨k + 1, by omega, by go_num, by rw [HRD.out, flatE_append, List.length_append, HN1.out]; exact hown4, hB4⟩
        case measure => simp [intOf]; omega
      · have ha1' : (a == 1) = false := by simpa using ha1
        have HRD : Hid (readsTo d (k + 1) = readsTo d k) := by
          show readsTo d (k + 1) = readsTo d k
          rw [readsTo, HO.out, if_neg ha1]
        clear ha1 hat
        go_wp2_with fail
        go_roundw
        case rel => exact ⟨k + 1, by omega, by go_num, by rw [HRD.out, HN1.out]; exact HOWN.out.alloc _, hbel.alloc hsz _⟩
        case measure => simp [intOf]; omega
    · have hlt' : ¬ (k : Int) < (d.length : Int) := by omega
      obtain rfl : k = d.length := by omega
      have HE : Hid (IsEdges wr u7 (readsTo d d.length)) := isEdges_own hown rfl
      clear hown
      go_wp2_with fail
      go_ret2
      exact ⟨_, rfl, HE.out, HB.out.trans (hbel.mono HB.out.size)⟩
end Go.Proofs.YtccjognnehoodahGreat

namespace Go.Proofs.YtccjognnehoodahGreat

structure Crs where
  done : List Int
  began : Int → Option Nat
  read : Int → List Op3
  wrote : Int → List Int
def crs0 : Crs := ⟨[], fun _ => none, fun _ => [], fun _ => []⟩
def lastQ (wrote : Int → List Int) (done : List Int) (item : Int) : Int := done.foldl (fun f t => if inB (wrote t) item = true then t else f) 0
theorem lastQ_snoc (wrote : Int → List Int) (done : List Int) (t item : Int) : lastQ wrote (done ++ [t]) item = if inB (wrote t) item = true then t else lastQ wrote done item := by
  unfold lastQ; rw [List.foldl_append]; rfl
def begQ (q : Crs) (t : Int) : Crs := if (q.began t).isSome = true then q else { q with began := setF q.began t (some q.done.length) }
theorem begQ_done (q : Crs) (t : Int) : (begQ q t).done = q.done := by unfold begQ; split <;> rfl
theorem begQ_read (q : Crs) (t : Int) : (begQ q t).read = q.read := by unfold begQ; split <;> rfl
theorem begQ_wrote (q : Crs) (t : Int) : (begQ q t).wrote = q.wrote := by unfold begQ; split <;> rfl
def srcQ (seesF : Crs → Int → Int → Int) (q : Crs) (t item : Int) : Int := if inB (q.wrote t) item = true then t else seesF q t item
def readQ (q : Crs) (x : Op3) : Crs := { q with read := setF q.read x.1 (q.read x.1 ++ [x]) }
def writeQ (q : Crs) (t item : Int) : Crs := { q with wrote := setF q.wrote t (q.wrote t ++ [item]) }
def doneQ (q : Crs) (t : Int) : Crs := { q with done := q.done ++ [t] }
/-- An op comes. -/
def stepQ (seesF : Crs → Int → Int → Int) (fallF : Crs → Int → Bool) (q : Crs) (o : Op3) : Crs :=
  if o.2.1 = 1 then readQ (begQ q o.1) (o.1, o.2.2, srcQ seesF (begQ q o.1) o.1 o.2.2)
  else if o.2.1 = 2 then writeQ (begQ q o.1) o.1 o.2.2
  else if o.2.1 = 3 then (if fallF (begQ q o.1) o.1 = true then begQ q o.1 else doneQ (begQ q o.1) o.1)
  else begQ q o.1
def runQ (seesF : Crs → Int → Int → Int) (fallF : Crs → Int → Bool) (l : List Op3) : Nat → Crs
  | 0 => crs0
  | k + 1 => stepQ seesF fallF (runQ seesF fallF l k) (opAt l k)
/-- How great it can be. -/
structure CrsOk (m : Nat) (q : Crs) : Prop where
  lenD : q.done.length ≤ m
  lenR : ∀ t, (q.read t).length ≤ m
  lenW : ∀ t, (q.wrote t).length ≤ m
  six : ∀ t ∈ q.done, 1 ≤ t ∧ t ≤ 6
  cnt : ∀ t n, q.began t = some n → n ≤ q.done.length
  begs : ∀ t ∈ q.done, (q.began t).isSome = true
theorem crsOk0 : CrsOk 0 crs0 := ⟨Nat.le_refl _, fun _ => Nat.le_refl _, fun _ => Nat.le_refl _, fun _ h => (by cases h), fun _ _ h => (by cases h), fun _ h => (by cases h)⟩
theorem begQ_some (q : Crs) (t : Int) : ((begQ q t).began t).isSome = true := by
  unfold begQ
  split
  · assumption
  · show (setF q.began t (some q.done.length) t).isSome = true
    rw [setF_same]; rfl
section
variable {m : Nat} {q : Crs}
theorem CrsOk.more (h : CrsOk m q) : CrsOk (m + 1) q := ⟨by have := h.lenD; omega, fun t => by have := h.lenR t; omega, fun t => by have := h.lenW t; omega, h.six, h.cnt, h.begs⟩
theorem CrsOk.beg (h : CrsOk m q) (t : Int) : CrsOk m (begQ q t) := by
  refine ⟨by rw [begQ_done]; exact h.lenD, by rw [begQ_read]; exact h.lenR, by rw [begQ_wrote]; exact h.lenW, by rw [begQ_done]; exact h.six, fun u n hu => ?_, fun u hu => ?_⟩
  · rw [begQ_done]
    unfold begQ at hu
    split at hu
    · exact h.cnt u n hu
    · have hu' : setF q.began t (some q.done.length) u = some n := hu
      by_cases e : u = t
      · subst e; rw [setF_same] at hu'; cases hu'; exact Nat.le_refl _
      · rw [setF_other _ _ e] at hu'; exact h.cnt u n hu'
  · rw [begQ_done] at hu
    by_cases e : u = t
    · subst e; exact begQ_some q u
    · unfold begQ
      split
      · exact h.begs u hu
      · show (setF q.began t (some q.done.length) u).isSome = true
        rw [setF_other _ _ e]; exact h.begs u hu
theorem CrsOk.read (h : CrsOk m q) (x : Op3) : CrsOk (m + 1) (readQ q x) := by
  refine ⟨by have := h.lenD; show q.done.length ≤ _; omega, fun t => ?_, fun t => by have := h.lenW t; show (q.wrote t).length ≤ _; omega, h.six, h.cnt, h.begs⟩
  show (setF q.read x.1 (q.read x.1 ++ [x]) t).length ≤ _
  have h1 := h.lenR t
  by_cases e : t = x.1
  · subst e; rw [setF_same, List.length_append, List.length_singleton]; omega
  · rw [setF_other _ _ e]; omega
theorem CrsOk.write (h : CrsOk m q) (t item : Int) : CrsOk (m + 1) (writeQ q t item) := by
  refine ⟨by have := h.lenD; show q.done.length ≤ _; omega, fun t => by have := h.lenR t; show (q.read t).length ≤ _; omega, fun u => ?_, h.six, h.cnt, h.begs⟩
  show (setF q.wrote t (q.wrote t ++ [item]) u).length ≤ _
  have h1 := h.lenW u
  by_cases e : u = t
  · subst e; rw [setF_same, List.length_append, List.length_singleton]; omega
  · rw [setF_other _ _ e]; omega
theorem CrsOk.end_ (h : CrsOk m q) {t : Int} (h1 : 1 ≤ t) (h6 : t ≤ 6) (hbt : (q.began t).isSome = true) : CrsOk (m + 1) (doneQ q t) := by
  refine ⟨by have := h.lenD; show (q.done ++ [t]).length ≤ _; rw [List.length_append, List.length_singleton]; omega, fun t => by have := h.lenR t; show (q.read t).length ≤ _; omega, fun t => by have := h.lenW t; show (q.wrote t).length ≤ _; omega, fun u hu => ?_, fun u n hu => ?_, fun u hu => ?_⟩
  · rcases List.mem_append.1 hu with hu | hu
    · exact h.six u hu
    · rw [List.mem_singleton.1 hu]; exact ⟨h1, h6⟩
  · have := h.cnt u n hu
    show n ≤ (q.done ++ [t]).length
    rw [List.length_append, List.length_singleton]; omega
  · rcases List.mem_append.1 hu with hu | hu
    · exact h.begs u hu
    · rw [List.mem_singleton.1 hu]; exact hbt
theorem CrsOk.step (seesF : Crs → Int → Int → Int) (fallF : Crs → Int → Bool) (h : CrsOk m q) {o : Op3} (h1 : 1 ≤ o.1) (h6 : o.1 ≤ 6) : CrsOk (m + 1) (stepQ seesF fallF q o) := by
  unfold stepQ
  split
  · exact (h.beg _).read _
  · split
    · exact (h.beg _).write _ _
    · split
      · split
        · exact (h.beg _).more
        · exact (h.beg _).end_ h1 h6 (begQ_some _ _)
      · exact (h.beg _).more
end
theorem crsOk_all (seesF : Crs → Int → Int → Int) (fallF : Crs → Int → Bool) {l : List Op3} (hop : ∀ o ∈ l, isOpB o = true) : ∀ k, k ≤ l.length → CrsOk k (runQ seesF fallF l k) := by
  intro k
  induction k with
  | zero => intro _; exact crsOk0
  | succ k ih =>
    intro hk
    have hm : opAt l k ∈ l := by rw [opAt_at (by omega)]; exact List.getElem_mem _
    have h1 := isOp_range (hop _ hm)
    exact (ih (by omega)).step seesF fallF h1.1 h1.2
/-- It stands as the kind's run does. -/
structure CFit (s : Kst) (q : Crs) : Prop where
  done : q.done = s.done
  read : ∀ t, q.read t = (s.of t).seen
  wrote : ∀ t, q.wrote t = (s.of t).wrote
  beg : ∀ t, (q.began t).isSome = s.beg t
  cnt : ∀ t n, q.began t = some n → n ≤ s.done.length ∧ (∀ i ∈ s.done.take n, (s.of i).ended < (s.of t).began) ∧ ∀ i ∈ s.done.drop n, i ≠ t → (s.of t).began < (s.of i).ended
theorem cfit0 : CFit kst0 crs0 := ⟨rfl, fun _ => rfl, fun _ => rfl, fun _ => rfl, fun _ _ h => (by cases h)⟩
theorem mem_takeQ {l : List Int} {n : Nat} {i : Int} (h : i ∈ l.take n) : i ∈ l := List.mem_of_mem_take h
section
variable {l : List Op3} {k : Nat} {s : Kst} {q : Crs}
/-- A deal begins, if it has not. -/
theorem CFit.begin (h : CFit s q) (hK : KOk l k s) {t : Int} (hnd : t ∉ s.done) (hfr : s.beg t = false → s.of t = ⟨0, 0, [], []⟩) : CFit (stayStep s k t) (begQ q t) := by
  have hoth : ∀ i ∈ s.done, setF s.of t (nowK s k t) i = s.of i := fun i hi => setF_other _ _ fun e => hnd (e ▸ hi)
  have hb := h.beg t
  cases hbt : s.beg t with
  | true =>
    rw [hbt] at hb
    have e1 : begQ q t = q := by unfold begQ; rw [if_pos hb]
    have e2 : nowK s k t = s.of t := by unfold nowK; rw [if_pos hbt]
    have e3 : setF s.of t (nowK s k t) = s.of := by rw [e2]; funext u; by_cases e : u = t; · subst e; exact setF_same ..
                                                    · exact setF_other _ _ e
    have e4 : setF s.beg t true = s.beg := by funext u; by_cases e : u = t; · subst e; rw [setF_same, hbt]
                                              · exact setF_other _ _ e
    have e5 : stayStep s k t = s := by unfold stayStep; rw [e3, e4]
    rw [e1, e5]
    exact h
  | false =>
    rw [hbt] at hb
    have hq : begQ q t = { q with began := setF q.began t (some q.done.length) } := by unfold begQ; rw [if_neg (by rw [hb]; decide)]
    have e2 : nowK s k t = ⟨k, -1, [], []⟩ := by unfold nowK; rw [if_neg (by rw [hbt]; decide)]
    have hz := hfr hbt
    rw [hq]
    refine ⟨h.done, fun u => ?_, fun u => ?_, fun u => ?_, fun u n hu => ?_⟩
    · show q.read u = (setF s.of t (nowK s k t) u).seen
      by_cases e : u = t
      · subst e; rw [setF_same, e2, h.read u, hz]
      · rw [setF_other _ _ e]; exact h.read u
    · show q.wrote u = (setF s.of t (nowK s k t) u).wrote
      by_cases e : u = t
      · subst e; rw [setF_same, e2, h.wrote u, hz]
      · rw [setF_other _ _ e]; exact h.wrote u
    · show (setF q.began t (some q.done.length) u).isSome = setF s.beg t true u
      by_cases e : u = t
      · subst e; rw [setF_same, setF_same]; rfl
      · rw [setF_other _ _ e, setF_other _ _ e]; exact h.beg u
    · show n ≤ s.done.length ∧ (∀ i ∈ s.done.take n, (setF s.of t (nowK s k t) i).ended < (setF s.of t (nowK s k t) u).began) ∧ ∀ i ∈ s.done.drop n, i ≠ u → (setF s.of t (nowK s k t) u).began < (setF s.of t (nowK s k t) i).ended
      have hu' : setF q.began t (some q.done.length) u = some n := hu
      by_cases e : u = t
      · subst e
        rw [setF_same] at hu'
        have hn : n = s.done.length := by rw [← h.done]; exact (Option.some.inj hu').symm
        subst hn
        refine ⟨Nat.le_refl _, fun i hi => ?_, fun i hi => by rw [List.drop_length] at hi; cases hi⟩
        rw [setF_same, hoth i (mem_takeQ hi), e2]
        exact (hK.comm i (mem_takeQ hi)).2.2.2.2.1
      · rw [setF_other _ _ e] at hu'
        obtain ⟨a, b, c⟩ := h.cnt u n hu'
        refine ⟨a, fun i hi => ?_, fun i hi hiu => ?_⟩
        · rw [setF_other _ _ e, hoth i (mem_takeQ hi)]; exact b i hi
        · rw [setF_other _ _ e, hoth i (List.mem_of_mem_drop hi)]; exact c i hi hiu
/-- What a deal saw or wrote grows; when it began, who is done stays. -/
theorem CFit.grow (h : CFit s q) {t : Int} (r : Dl) (lk : List Op3) (q1 : Crs) (hd : q1.done = q.done) (hb : q1.began = q.began) (hr : ∀ u, q1.read u = (setF s.of t r u).seen) (hw : ∀ u, q1.wrote u = (setF s.of t r u).wrote) (hbt : s.beg t = true) (h1 : r.began = (s.of t).began) (h2 : r.ended = (s.of t).ended) : CFit ⟨s.done, setF s.of t r, s.beg, lk⟩ q1 := by
  have hB : ∀ u, (setF s.of t r u).began = (s.of u).began := fun u => by
    by_cases e : u = t
    · subst e; rw [setF_same]; exact h1
    · rw [setF_other _ _ e]
  have hE : ∀ u, (setF s.of t r u).ended = (s.of u).ended := fun u => by
    by_cases e : u = t
    · subst e; rw [setF_same]; exact h2
    · rw [setF_other _ _ e]
  refine ⟨by rw [hd]; exact h.done, hr, hw, fun u => by rw [hb]; exact h.beg u, fun u n hu => ?_⟩
  rw [hb] at hu
  obtain ⟨a, b, c⟩ := h.cnt u n hu
  show n ≤ s.done.length ∧ (∀ i ∈ s.done.take n, (setF s.of t r i).ended < (setF s.of t r u).began) ∧ ∀ i ∈ s.done.drop n, i ≠ u → (setF s.of t r u).began < (setF s.of t r i).ended
  refine ⟨a, fun i hi => ?_, fun i hi hiu => ?_⟩
  · rw [hE, hB]; exact b i hi
  · rw [hE, hB]; exact c i hi hiu
end
/-- What a Read sees of what its deal did not write. -/
def seeK (kind : Int) (s : Kst) (at_ : Int) (r : Dl) (t item : Int) : Int := if kind = 1 then whoK s.done s.of item at_ 0 else if kind = 4 then whoK s.done s.of item at_ t else whoK s.done s.of item r.began 0
theorem from_see (kind : Int) (s : Kst) (at_ : Int) (r : Dl) (t item : Int) : fromK kind s at_ r t item = if inB r.wrote item = true then t else seeK kind s at_ r t item := rfl
theorem set_set {α : Type} (f : Int → α) (t : Int) (a b : α) : setF (setF f t a) t b = setF f t b := by
  funext u
  by_cases e : u = t
  · subst e; rw [setF_same, setF_same]
  · rw [setF_other _ _ e, setF_other _ _ e, setF_other _ _ e]
/-- The rules answer as the kind has it. -/
def RulesK (kind : Int) (okF : Kst → Int → Dl → Bool) (seesF : Crs → Int → Int → Int) (fallF : Crs → Int → Bool) : Prop :=
  ∀ (l : List Op3) (k : Nat) (s : Kst) (q : Crs) (t : Int), KOk l k s → CFit s q → CFit (stayStep s k t) (begQ q t) → t ∉ s.done → 1 ≤ t → t ≤ 6 →
    (∀ item, seesF (begQ q t) t item = seeK kind s k (nowK s k t) t item) ∧ fallF (begQ q t) t = !okF s t (nowK s k t)
/-- .. of this run. -/
def RulesAt (l : List Op3) (kind : Int) (okF : Kst → Int → Dl → Bool) (seesF : Crs → Int → Int → Int) (fallF : Crs → Int → Bool) : Prop :=
  ∀ (k : Nat) (s : Kst) (q : Crs) (t : Int), k ≤ l.length → s = runK kind okF l k → KOk l k s → CFit s q → CFit (stayStep s k t) (begQ q t) → t ∉ s.done → 1 ≤ t → t ≤ 6 →
    (∀ item, seesF (begQ q t) t item = seeK kind s k (nowK s k t) t item) ∧ fallF (begQ q t) t = !okF s t (nowK s k t)
theorem RulesK.at {kind : Int} {okF : Kst → Int → Dl → Bool} {seesF : Crs → Int → Int → Int} {fallF : Crs → Int → Bool} (h : RulesK kind okF seesF fallF) (l : List Op3) : RulesAt l kind okF seesF fallF := fun k s q t _ _ h1 h2 h3 h4 h5 h6 => h l k s q t h1 h2 h3 h4 h5 h6
theorem cfit_step {kind : Int} {okF : Kst → Int → Dl → Bool} {seesF : Crs → Int → Int → Int} {fallF : Crs → Int → Bool} {l : List Op3} (hR : RulesAt l kind okF seesF fallF) {k : Nat} {s : Kst} {q : Crs} (hkl : k ≤ l.length) (hsr : s = runK kind okF l k) (h : CFit s q) (hK : KOk l k s) {o : Op3} (hnd : o.1 ∉ s.done) (hfr : s.beg o.1 = false → s.of o.1 = ⟨0, 0, [], []⟩) (ho1 : 1 ≤ o.1) (ho6 : o.1 ≤ 6) :
    CFit (stepK kind okF s k o) (stepQ seesF fallF q o) := by
  obtain ⟨t, a, i⟩ := o
  simp only at hnd hfr ho1 ho6
  have h1 := h.begin hK hnd hfr
  obtain ⟨hs, hf⟩ := hR k s q t hkl hsr hK h h1 hnd ho1 ho6
  have hbt : (stayStep s k t).beg t = true := by show setF s.beg t true t = true; exact setF_same ..
  have hof : (stayStep s k t).of t = nowK s k t := by show setF s.of t _ t = _; exact setF_same ..
  unfold stepK stepQ
  simp only
  split
  · have hsrc : srcQ seesF (begQ q t) t i = fromK kind s k (nowK s k t) t i := by
      unfold srcQ
      rw [from_see, h1.wrote t, hof, hs i]
    rw [hsrc]
    unfold readStep
    have := h1.grow (t := t) { nowK s k t with seen := (nowK s k t).seen ++ [(t, i, fromK kind s k (nowK s k t) t i)] } (if kind = 4 ∧ inB (nowK s k t).wrote i = false then s.looks ++ [(t, i, fromK kind s k (nowK s k t) t i)] else s.looks) (readQ (begQ q t) (t, i, fromK kind s k (nowK s k t) t i)) rfl rfl (fun u => ?_) (fun u => ?_) hbt (by rw [hof]) (by rw [hof])
    · have e : setF (stayStep s k t).of t { nowK s k t with seen := (nowK s k t).seen ++ [(t, i, fromK kind s k (nowK s k t) t i)] } = setF s.of t { nowK s k t with seen := (nowK s k t).seen ++ [(t, i, fromK kind s k (nowK s k t) t i)] } := set_set _ _ _ _
      rw [e] at this
      exact this
    · show setF (begQ q t).read t ((begQ q t).read t ++ [(t, i, fromK kind s k (nowK s k t) t i)]) u = _
      by_cases e : u = t
      · subst e; rw [setF_same, setF_same, h1.read u, hof]
      · rw [setF_other _ _ e, setF_other _ _ e]; exact h1.read u
    · show (begQ q t).wrote u = _
      by_cases e : u = t
      · subst e; rw [setF_same, h1.wrote u, hof]
      · rw [setF_other _ _ e]; exact h1.wrote u
  · split
    · unfold writeStep
      have := h1.grow (t := t) { nowK s k t with wrote := (nowK s k t).wrote ++ [i] } s.looks (writeQ (begQ q t) t i) rfl rfl (fun u => ?_) (fun u => ?_) hbt (by rw [hof]) (by rw [hof])
      · have e : setF (stayStep s k t).of t { nowK s k t with wrote := (nowK s k t).wrote ++ [i] } = setF s.of t { nowK s k t with wrote := (nowK s k t).wrote ++ [i] } := set_set _ _ _ _
        rw [e] at this
        exact this
      · show (begQ q t).read u = _
        by_cases e : u = t
        · subst e; rw [setF_same, h1.read u, hof]
        · rw [setF_other _ _ e]; exact h1.read u
      · show setF (begQ q t).wrote t ((begQ q t).wrote t ++ [i]) u = _
        by_cases e : u = t
        · subst e; rw [setF_same, setF_same, h1.wrote u, hof]
        · rw [setF_other _ _ e, setF_other _ _ e]; exact h1.wrote u
    · split
      · rw [hf]
        cases hok : okF s t (nowK s k t) with
        | false =>
          rw [if_neg (by decide), if_pos (by decide)]
          exact h1
        | true =>
          rw [if_pos rfl, if_neg (by decide)]
          unfold doneStep
          have hoth : ∀ u, u ≠ t → setF s.of t { nowK s k t with ended := (k : Int) } u = s.of u := fun u hu => setF_other _ _ hu
          refine ⟨?_, fun u => ?_, fun u => ?_, fun u => h1.beg u, fun u n hu => ?_⟩
          · show (begQ q t).done ++ [t] = s.done ++ [t]
            rw [h1.done]; rfl
          · show (begQ q t).read u = (setF s.of t { nowK s k t with ended := (k : Int) } u).seen
            by_cases e : u = t
            · subst e; rw [setF_same, h1.read u, hof]
            · rw [hoth u e, begQ_read]; exact h.read u
          · show (begQ q t).wrote u = (setF s.of t { nowK s k t with ended := (k : Int) } u).wrote
            by_cases e : u = t
            · subst e; rw [setF_same, h1.wrote u, hof]
            · rw [hoth u e, begQ_wrote]; exact h.wrote u
          · show n ≤ (s.done ++ [t]).length ∧ (∀ i ∈ (s.done ++ [t]).take n, (setF s.of t { nowK s k t with ended := (k : Int) } i).ended < (setF s.of t { nowK s k t with ended := (k : Int) } u).began) ∧ ∀ i ∈ (s.done ++ [t]).drop n, i ≠ u → (setF s.of t { nowK s k t with ended := (k : Int) } u).began < (setF s.of t { nowK s k t with ended := (k : Int) } i).ended
            have hu1 : (begQ q t).began u = some n := hu
            have hbu : (setF s.of t { nowK s k t with ended := (k : Int) } u).began = (setF s.of t (nowK s k t) u).began := by
              by_cases e : u = t
              · subst e; rw [setF_same, setF_same]
              · rw [setF_other _ _ e, setF_other _ _ e]
            obtain ⟨a, b, c⟩ := h1.cnt u n hu1
            have a' : n ≤ s.done.length := a
            have b' : ∀ i ∈ s.done.take n, (setF s.of t (nowK s k t) i).ended < (setF s.of t (nowK s k t) u).began := b
            have c' : ∀ i ∈ s.done.drop n, i ≠ u → (setF s.of t (nowK s k t) u).began < (setF s.of t (nowK s k t) i).ended := c
            have hne : ∀ i ∈ s.done, i ≠ t := fun i hi e => hnd (e ▸ hi)
            refine ⟨by rw [List.length_append, List.length_singleton]; omega, fun i hi => ?_, fun i hi hiu => ?_⟩
            · rw [List.take_append_of_le_length a'] at hi
              have := b' i hi
              rw [setF_other _ _ (hne i (mem_takeQ hi))] at this ⊢
              rw [hbu]
              exact this
            · rw [List.drop_append_of_le_length a'] at hi
              rw [hbu]
              rcases List.mem_append.1 hi with hi | hi
              · have := c' i hi hiu
                rw [setF_other _ _ (hne i (List.mem_of_mem_drop hi))] at this ⊢
                exact this
              · have hit := List.mem_singleton.1 hi
                have hut : u ≠ t := fun e => hiu (hit.trans e.symm)
                have hub : s.beg u = true := by
                  have := h1.beg u
                  rw [hu1] at this
                  have h5 : setF s.beg t true u = true := this.symm
                  rw [setF_other _ _ hut] at h5
                  exact h5
                rw [hit, setF_same, setF_other _ _ hut]
                exact (hK.times u hub).2
      · exact h1
theorem of_fresh (kind : Int) (okF : Kst → Int → Dl → Bool) (l : List Op3) : ∀ k t, (runK kind okF l k).beg t = false → (runK kind okF l k).of t = ⟨0, 0, [], []⟩ := by
  intro k
  induction k with
  | zero => intro t _; rfl
  | succ k ih =>
    intro t ht
    have key : ∀ r : Dl, setF (runK kind okF l k).beg (opAt l k).1 true t = false → setF (runK kind okF l k).of (opAt l k).1 r t = ⟨0, 0, [], []⟩ := fun r hb => by
      have hne : t ≠ (opAt l k).1 := fun e => by rw [e, setF_same] at hb; cases hb
      rw [setF_other _ _ hne] at hb ⊢
      exact ih t hb
    have ht' : (stepK kind okF (runK kind okF l k) k (opAt l k)).beg t = false := ht
    show (stepK kind okF (runK kind okF l k) k (opAt l k)).of t = _
    unfold stepK at ht' ⊢
    split at ht'
    · rename_i h1; rw [if_pos h1]; exact key _ ht'
    · rename_i h1
      rw [if_neg h1]
      split at ht'
      · rename_i h2; rw [if_pos h2]; exact key _ ht'
      · rename_i h2
        rw [if_neg h2]
        split at ht'
        · rename_i h3
          rw [if_pos h3]
          split at ht'
          · rename_i h4; rw [if_pos h4]; exact key _ ht'
          · rename_i h4; rw [if_neg h4]; exact key _ ht'
        · rename_i h3; rw [if_neg h3]; exact key _ ht'
theorem cfit_at {kind : Int} {okF : Kst → Int → Dl → Bool} {seesF : Crs → Int → Int → Int} {fallF : Crs → Int → Bool} {l : List Op3} (hR : RulesAt l kind okF seesF fallF) (hc : (chk l).2 = 0) : ∀ k, k ≤ l.length → CFit (runK kind okF l k) (runQ seesF fallF l k) := by
  intro k
  induction k with
  | zero => intro _; exact cfit0
  | succ k ih =>
    intro hk
    have hK := run_kOk kind okF hc k (by omega)
    have h16 := isOp_range (((chk_iff l).1 hc).2.1 _ (opAt_mem (show k < l.length by omega)))
    exact cfit_step hR (by omega) rfl (ih (by omega)) hK (hK.free ((chk_iff l).1 hc).2.2 (by omega)) (of_fresh kind okF l k _) h16.1 h16.2
theorem cfit_all {kind : Int} {okF : Kst → Int → Dl → Bool} {seesF : Crs → Int → Int → Int} {fallF : Crs → Int → Bool} (hR : RulesK kind okF seesF fallF) {l : List Op3} (hc : (chk l).2 = 0) : ∀ k, k ≤ l.length → CFit (runK kind okF l k) (runQ seesF fallF l k) := cfit_at (hR.at l) hc
/-- What it comes to. -/
theorem crs_at {kind : Int} {okF : Kst → Int → Dl → Bool} {seesF : Crs → Int → Int → Int} {fallF : Crs → Int → Bool} (byN : Bool) {l : List Op3} (hR : RulesAt l kind okF seesF fallF) (hc : (chk l).2 = 0) :
    outU kind okF byN l = ((ordN byN (runQ seesF fallF l l.length).done, (ordN byN (runQ seesF fallF l l.length).done).flatMap (runQ seesF fallF l l.length).read, (List.range 6).map fun i : Nat => lastQ (runQ seesF fallF l l.length).wrote (ordN byN (runQ seesF fallF l l.length).done) ((i : Int) + 1)), 0) := by
  have h := cfit_at hR hc l.length (Nat.le_refl _)
  rw [outU_ok hc]
  have e1 : (runQ seesF fallF l l.length).read = fun t => ((runK kind okF l l.length).of t).seen := funext h.read
  have e2 : (runQ seesF fallF l l.length).wrote = fun t => ((runK kind okF l l.length).of t).wrote := funext h.wrote
  rw [e1, e2, h.done]
  rfl
theorem crs_out {kind : Int} {okF : Kst → Int → Dl → Bool} {seesF : Crs → Int → Int → Int} {fallF : Crs → Int → Bool} (hR : RulesK kind okF seesF fallF) {l : List Op3} (hc : (chk l).2 = 0) :
    outU kind okF false l = (((runQ seesF fallF l l.length).done, (runQ seesF fallF l l.length).done.flatMap (runQ seesF fallF l l.length).read, (List.range 6).map fun i : Nat => lastQ (runQ seesF fallF l l.length).wrote (runQ seesF fallF l l.length).done ((i : Int) + 1)), 0) := crs_at false (hR.at l) hc
/-- Chapter 11's rules. -/
def seesV (q : Crs) (_ item : Int) : Int := lastQ q.wrote q.done item
def fallV (q : Crs) (t : Int) : Bool := (q.done.drop ((q.began t).getD 0)).any fun o => (q.read t).any fun x => x.2.2 != t && inB (q.wrote o) x.2.1
theorem rulesV : RulesK 1 okV seesV fallV := by
  intro l k s q t hK h h1 hnd _ _
  constructor
  · intro item
    unfold seesV seeK
    rw [if_pos rfl, begQ_done, begQ_wrote, h.done, who_last (fun i hi => (hK.comm i hi).2.2.2.2.1)]
    unfold lastQ lastK
    have e2 : q.wrote = fun t => (s.of t).wrote := funext h.wrote
    rw [e2]
  · have hb : ((begQ q t).began t).isSome = true := by rw [h1.beg t]; show setF s.beg t true t = true; exact setF_same ..
    obtain ⟨n, hn⟩ := Option.isSome_iff_exists.1 hb
    obtain ⟨a, b, c⟩ := h1.cnt t n hn
    have hof : (stayStep s k t).of t = nowK s k t := by show setF s.of t _ t = _; exact setF_same ..
    have hoth : ∀ i ∈ s.done, (stayStep s k t).of i = s.of i := fun i hi => by show setF s.of t _ i = _; exact setF_other _ _ fun e => hnd (e ▸ hi)
    have a' : n ≤ s.done.length := a
    have b' : ∀ i ∈ s.done.take n, ((stayStep s k t).of i).ended < ((stayStep s k t).of t).began := b
    have c' : ∀ i ∈ s.done.drop n, i ≠ t → ((stayStep s k t).of t).began < ((stayStep s k t).of i).ended := c
    unfold fallV okV hitK
    rw [Bool.not_not, hn, begQ_done, h.done, h1.read t, hof, begQ_wrote, Bool.eq_iff_iff]
    simp only [Option.getD_some, List.any_eq_true, Bool.and_eq_true, decide_eq_true_eq]
    constructor
    · rintro ⟨i, hi, x, hx, hxt, hw⟩
      have hi' := List.mem_of_mem_drop hi
      have hc' := c' i hi fun e => hnd (e ▸ hi')
      rw [hof, hoth i hi'] at hc'
      rw [h.wrote i] at hw
      refine ⟨i, hi', x.2.1, inB_iff.1 hw, hc', ?_⟩
      rw [if_neg (by decide)]
      exact List.any_eq_true.2 ⟨x, hx, by simp only [Bool.and_eq_true, beq_self_eq_true, true_and]; exact hxt⟩
    · rintro ⟨i, hi, item, hit, hlt, hrd⟩
      rw [if_neg (by decide)] at hrd
      obtain ⟨x, hx, hxx⟩ := List.any_eq_true.1 hrd
      simp only [Bool.and_eq_true, beq_iff_eq] at hxx
      refine ⟨i, ?_, x, hx, hxx.2, ?_⟩
      · rcases List.mem_append.1 (by rw [List.take_append_drop]; exact hi : i ∈ s.done.take n ++ s.done.drop n) with hm | hm
        · have := b' i hm
          rw [hof, hoth i hi] at this
          omega
        · exact hm
      · rw [h.wrote i, hxx.1]; exact inB_iff.2 hit
end Go.Proofs.YtccjognnehoodahGreat

namespace Go.Proofs.YtccjognnehoodahGreat
open Go.RowKit

/-- Of the blocks that there were, only those of F have turned. -/
structure Turns (F : Nat → Prop) (w w' : World) : Prop where
  os : w'.os = w.os
  tape : w'.tape = w.tape
  output : w'.output = w.output
  size : w.heap.size ≤ w'.heap.size
  block : ∀ k, k < w.heap.size → ¬ F k → w'.heap[k]? = w.heap[k]?
theorem Turns.refl (F : Nat → Prop) (w : World) : Turns F w w := ⟨rfl, rfl, rfl, Nat.le_refl _, fun _ _ _ => rfl⟩
theorem Turns.trans {F G : Nat → Prop} {w w1 w2 : World} (h : Turns F w w1) (k : Turns G w1 w2) (hG : ∀ j, j < w.heap.size → G j → F j) : Turns F w w2 :=
  ⟨k.os.trans h.os, k.tape.trans h.tape, k.output.trans h.output, Nat.le_trans h.size k.size, fun j h1 h2 => (k.block j (Nat.lt_of_lt_of_le h1 h.size) (fun hg => h2 (hG j h1 hg))).trans (h.block j h1 h2)⟩
theorem Turns.of_below {F : Nat → Prop} {w w' : World} (h : Below w.heap.size w w') : Turns F w w' := ⟨h.os, h.tape, h.output, h.size, fun k hk _ => h.block k hk⟩
theorem Turns.below {F : Nat → Prop} {B : Nat} {w w' : World} (h : Turns F w w') (hB : B ≤ w.heap.size) (hF : ∀ k, k < B → ¬ F k) : Below B w w' := ⟨h.os, h.tape, h.output, h.size, fun k hk => h.block k (Nat.lt_of_lt_of_le hk hB) (hF k hk)⟩
theorem Turns.then_below {F : Nat → Prop} {w w1 w2 : World} (h : Turns F w w1) (k : Below w1.heap.size w1 w2) : Turns F w w2 := h.trans (Turns.of_below (F := fun _ => False) k) fun _ _ hf => hf.elim
theorem Turns.drew {F : Nat → Prop} {w w1 : World} (h : Turns F w w1) : Turns F w w1.drew := ⟨h.os, h.tape, h.output, h.size, h.block⟩
theorem Turns.alloc {F : Nat → Prop} {w w1 : World} (h : Turns F w w1) (o : Obj) : Turns F w (w1.alloc o) := h.then_below ((Below.refl _ w1).alloc (Nat.le_refl _) o)
theorem Turns.setCell {F : Nat → Prop} {w w1 : World} (h : Turns F w w1) {p : Addr} (hp : F p.block ∨ w.heap.size ≤ p.block) (u : Value) : Turns F w (w1.setCell p u) := by
  refine ⟨h.os, h.tape, h.output, by simpa using h.size, fun k h1 h2 => ?_⟩
  have hne : k ≠ p.block := by
    intro e
    rcases hp with hp | hp
    · exact h2 (e ▸ hp)
    · omega
  exact (Below.heap_setCell w1 p u k hne).trans (h.block k h1 h2)
theorem Turns.grown {F : Nat → Prop} {w w1 w2 : World} {row : Option Nat} (h : Turns F w w1) (hg : w1.grownBy w2 row) (hr : ∀ k, row = some k → F k ∨ w.heap.size ≤ k) : Turns F w w2 :=
  ⟨hg.os.trans h.os, hg.tape.trans h.tape, hg.output.trans h.output, Nat.le_trans h.size hg.size, fun k h1 h2 => (hg.block k (Nat.lt_of_lt_of_le h1 h.size) (fun e => by
    rcases hr k e.symm with hp | hp
    · exact h2 hp
    · omega)).trans (h.block k h1 h2)⟩
theorem Turns.mono {F G : Nat → Prop} {w w1 : World} (h : Turns F w w1) (hF : ∀ k, k < w.heap.size → F k → G k) : Turns G w w1 := ⟨h.os, h.tape, h.output, h.size, fun k h1 h2 => h.block k h1 fun hf => h2 (hF k h1 hf)⟩
theorem Turns.cell {F : Nat → Prop} {w w1 : World} (h : Turns F w w1) {p : Addr} (hp : p.block < w.heap.size) (hF : ¬ F p.block) : w1.cell? p = w.cell? p := World.cell?_of_block (w := w) (h.block p.block hp hF)
/-- What is owned stays owned where its own block does not turn. -/
theorem Turns.own {F : Nat → Prop} {w w1 : World} {base e size n : Nat} {v : Value} {xs : List Value} (h : Turns F w w1) (ho : w.ownsRow base e size v n xs) (hF : ∀ g, v.ownBlock = some g → ¬ F g) : w1.ownsRow base e size v n xs := by
  have h' := ho
  obtain ⟨hl, hd | ⟨g, cap, cur, hv, hbg, hg, hn, hm, hsz, htk⟩⟩ := ho
  · exact ⟨hl, .inl hd⟩
  · refine ⟨hl, .inr ⟨g, cap, cur, hv, hbg, ?_, hn, hm, hsz, htk⟩⟩
    rw [h.block g (h'.lt g (by rw [hv]; rfl)).2 (hF g (by rw [hv]; rfl))]; exact hg
theorem own_less {w : World} {base base2 e size n : Nat} {v : Value} {xs : List Value} (h : w.ownsRow base e size v n xs) (hb : base2 ≤ base) : w.ownsRow base2 e size v n xs := by
  obtain ⟨hl, hd | ⟨g, cap, cur, hv, hbg, hg, hn, hm, hsz, htk⟩⟩ := h
  · exact ⟨hl, .inl hd⟩
  · exact ⟨hl, .inr ⟨g, cap, cur, hv, Nat.le_trans hb hbg, hg, hn, hm, hsz, htk⟩⟩
theorem isOps_row {w : World} {base e n : Nat} {v : Value} {l : List Op3} (h : w.ownsRow base e 3 v n (flat l)) (hl : l.length = n) : IsOps w v l := by
  have h' := h
  obtain ⟨hx, ⟨hv, hd⟩ | ⟨g, cap, cur, hv, hb, hg, hn, hm, hsz, htk⟩⟩ := h'
  · have : l = [] := List.length_eq_zero_iff.1 (by omega)
    subst this
    rw [hv]
    exact ⟨none, 0, 0, 0, rfl, fun h => absurd h (by simp), fun _ => ⟨rfl, rfl⟩, .inr rfl, fun i hi => by simp at hi⟩
  · refine ⟨some ⟨g, 0, none⟩, g, 0, cap, by rw [hl]; exact hv, fun _ => rfl, fun h => (by simp at h), .inl (h.lt g (by rw [hv]; rfl)).2, opsAt_of fun j u hj => ?_⟩
    have := h.cells (g := g) (by rw [hv]; rfl) j u hj
    rw [Addr.add_lit] at this
    exact this
theorem own_slice3 {w : World} {base e size n : Nat} {v : Value} {xs : List Value} (h : w.ownsRow base e size v n xs) : ∃ ad c, v = .slice ad n c ∧ (0 < n → ∃ g, ad = some ⟨g, 0, none⟩ ∧ base ≤ g ∧ g < w.heap.size ∧ ∀ k, w.frozen? ⟨g, k, none⟩ = false) := by
  have h' := h
  obtain ⟨_, ⟨hv, h0⟩ | ⟨g, c, cur, hv, hb, hg, _⟩⟩ := h
  · exact ⟨none, 0, by rw [hv, h0], fun hp => absurd hp (by omega)⟩
  · exact ⟨_, c, hv, fun _ => ⟨g, rfl, hb, (h'.lt g (by rw [hv]; rfl)).2, fun k => by simp [World.frozen?, hg]⟩⟩
theorem flat_set : ∀ (l : List Op3) (k : Nat) (x : Op3), k < l.length → flat (l.set k x) = (((flat l).set (k * 3) (.int .i64 x.1)).set (k * 3 + 1) (.int .i64 x.2.1)).set (k * 3 + 2) (.int .i64 x.2.2) := by
  intro l
  induction l with
  | nil => intro k x h; simp at h
  | cons y r ih =>
    intro k x h
    cases k with
    | zero => simp [flat]
    | succ k =>
      rw [List.set_cons_succ, flat, ih k x (by simpa using h), show (k + 1) * 3 = k * 3 + 3 by omega]
      simp [flat]
/-- A lock is put into the place of another one. -/
theorem own_put3 {w : World} {base e n c g : Nat} {l : List Op3} (h : w.ownsRow base e 3 (.slice (some ⟨g, 0, none⟩) n c) n (flat l)) (hl : l.length = n) {k : Nat} (hk : k < n) (x : Op3) :
    (((w.setCell ⟨g, k * 3, none⟩ (.int .i64 x.1)).setCell ⟨g, k * 3 + 1, none⟩ (.int .i64 x.2.1)).setCell ⟨g, k * 3 + 2, none⟩ (.int .i64 x.2.2)).ownsRow base e 3 (.slice (some ⟨g, 0, none⟩) n c) n (flat (l.set k x)) := by
  obtain ⟨hx, ⟨hv, _⟩ | ⟨g2, c2, cur, hv, hb, hg, hn, hm, hsz, htk⟩⟩ := h
  · cases hv
  · simp only [Value.slice.injEq, Option.some.injEq, Addr.mk.injEq, and_true, true_and] at hv
    obtain ⟨rfl, rfl⟩ := hv
    refine ⟨by rw [flat_length, List.length_set, hl], .inr ⟨g, c, ((cur.setIfInBounds (k * 3) (.int .i64 x.1)).setIfInBounds (k * 3 + 1) (.int .i64 x.2.1)).setIfInBounds (k * 3 + 2) (.int .i64 x.2.2), rfl, hb, ?_, hn, hm, by simpa using hsz, ?_⟩⟩
    · unfold World.setCell
      simp [Array.getElem?_modify, hg]
    · rw [flat_set l k x (by omega), ← htk]
      simp only [Array.toList_setIfInBounds, List.take_set]
theorem holdL_at {l : List Op3} {x : Op3} : ∀ {k : Nat}, k < l.length → (∀ j, j < k → likeL (opAt l j) x = false) → likeL (opAt l k) x = true → holdL l x = l.set k x := by
  induction l with
  | nil => intro k hk; simp at hk
  | cons y r ih =>
    intro k hk hno hyes
    cases k with
    | zero =>
      unfold holdL
      rw [if_pos (by simpa [opAt, List.getD] using hyes)]
      rfl
    | succ k =>
      have h0 := hno 0 (by omega)
      unfold holdL
      rw [if_neg (by simpa [opAt, List.getD] using h0), List.set_cons_succ, ih (by simpa using hk) (fun j hj => by simpa [opAt, List.getD] using hno (j + 1) (by omega)) (by simpa [opAt, List.getD] using hyes)]
theorem holdL_end {l : List Op3} {x : Op3} (h : ∀ j, j < l.length → likeL (opAt l j) x = false) : holdL l x = l ++ [x] := by
  induction l with
  | nil => rfl
  | cons y r ih =>
    have h0 := h 0 (by simp)
    unfold holdL
    rw [if_neg (by simpa [opAt, List.getD] using h0), ih fun j hj => by simpa [opAt, List.getD] using h (j + 1) (by simpa using hj)]
    rfl
/-- The blocks of a table. -/
def foot (T : Nat) (hv wv : Value) (k : Nat) : Prop := k = T ∨ hv.ownBlock = some k ∨ wv.ownBlock = some k
/-- The two slices of a table, put into a block's cells. -/
def put2 (cs : Array Value) (o : Nat) (hv wv : Value) : Array Value := (cs.setIfInBounds o hv).setIfInBounds (o + 1) wv
theorem put2_size (cs : Array Value) (o : Nat) (hv wv : Value) : (put2 cs o hv wv).size = cs.size := by simp [put2]
theorem put2_at (cs : Array Value) (o : Nat) (hv wv : Value) (k : Nat) : (put2 cs o hv wv)[k]? = if k = o + 1 then (if o + 1 < cs.size then some wv else none) else if k = o then (if o < cs.size then some hv else none) else cs[k]? := by
  unfold put2
  rw [Array.getElem?_setIfInBounds, Array.getElem?_setIfInBounds, Array.size_setIfInBounds]
  by_cases h1 : k = o + 1
  · subst h1; simp
  · by_cases h2 : k = o
    · subst h2; simp
    · rw [if_neg (fun e => h1 e.symm), if_neg (fun e => h2 e.symm), if_neg h1, if_neg h2]
theorem put2_put2 (cs : Array Value) (o : Nat) (a b c d : Value) : put2 (put2 cs o a b) o c d = put2 cs o c d := by
  refine Array.ext_getElem? fun k => ?_
  rw [put2_at, put2_at, put2_at, put2_size]
  split
  · rfl
  · split <;> rfl
theorem put2_same {cs : Array Value} {o : Nat} {hv wv : Value} (h0 : cs[o]? = some hv) (h1 : cs[o + 1]? = some wv) : put2 cs o hv wv = cs := by
  refine Array.ext_getElem? fun k => ?_
  have l0 := (Array.getElem?_eq_some_iff.1 h0).1
  have l1 := (Array.getElem?_eq_some_iff.1 h1).1
  rw [put2_at, if_pos l1, if_pos l0]
  split
  · rename_i e; simp [e, h1]
  · split
    · rename_i e; simp [e, h0]
    · rfl
theorem put2_0 {cs : Array Value} {o : Nat} {wv : Value} (v : Value) (h1 : cs[o + 1]? = some wv) : cs.setIfInBounds o v = put2 cs o v wv := by
  refine Array.ext_getElem? fun k => ?_
  have l1 := (Array.getElem?_eq_some_iff.1 h1).1
  rw [put2_at, Array.getElem?_setIfInBounds]
  by_cases h2 : k = o + 1
  · subst h2
    rw [if_neg (by omega), if_pos rfl, if_pos l1, h1]
  · by_cases h3 : k = o
    · subst h3; simp
    · rw [if_neg (fun e => h3 e.symm), if_neg h2, if_neg h3]
theorem put2_1 {cs : Array Value} {o : Nat} {hv : Value} (v : Value) (h0 : cs[o]? = some hv) : cs.setIfInBounds (o + 1) v = put2 cs o hv v := by
  refine Array.ext_getElem? fun k => ?_
  have l0 := (Array.getElem?_eq_some_iff.1 h0).1
  rw [put2_at, Array.getElem?_setIfInBounds]
  by_cases h2 : k = o + 1
  · subst h2; simp
  · rw [if_neg (fun e => h2 e.symm), if_neg h2]
    by_cases h3 : k = o
    · subst h3
      rw [if_pos rfl, if_pos l0, h0]
    · rw [if_neg h3]
/-- A table in memory: in a block, from cell o on, two slices, each with a row of its own. -/
structure TabAt (w : World) (ty : TypeId) (T o : Nat) (cs : Array Value) (hv wv : Value) (s : Tab2) : Prop where
  blk : w.heap[T]? = some (.cells cs ty (0, 0))
  at0 : cs[o]? = some hv
  at1 : cs[o + 1]? = some wv
  oh : w.ownsRow (T + 1) 166 3 hv s.1.length (flat s.1)
  ow : w.ownsRow (T + 1) 166 3 wv s.2.length (flat s.2)
  apart : ∀ g, hv.ownBlock = some g → wv.ownBlock = some g → False
section
variable {w w1 : World} {F : Nat → Prop} {ty : TypeId} {T o : Nat} {cs : Array Value} {hv wv v : Value} {s : Tab2}
theorem TabAt.lt (h : TabAt w ty T o cs hv wv s) : T < w.heap.size := (Array.getElem?_eq_some_iff.1 h.blk).1
theorem TabAt.c0 (h : TabAt w ty T o cs hv wv s) : w.cell? ⟨T, o, none⟩ = some hv := by rw [cell_of_row w T _ _ _ _ h.blk]; exact h.at0
theorem TabAt.c1 (h : TabAt w ty T o cs hv wv s) : w.cell? ⟨T, o + 1, none⟩ = some wv := by rw [cell_of_row w T _ _ _ _ h.blk]; exact h.at1
theorem TabAt.thaw (h : TabAt w ty T o cs hv wv s) (k : Nat) : w.frozen? ⟨T, k, none⟩ = false := by simp [World.frozen?, h.blk]
theorem TabAt.foot_lt (h : TabAt w ty T o cs hv wv s) {k : Nat} (hk : foot T hv wv k) : T ≤ k ∧ k < w.heap.size := by
  have := h.lt
  rcases hk with rfl | hk | hk
  · omega
  · have := h.oh.lt k hk; omega
  · have := h.ow.lt k hk; omega
theorem TabAt.turn (h : TabAt w ty T o cs hv wv s) (ht : Turns F w w1) (hF : ∀ k, foot T hv wv k → ¬ F k) : TabAt w1 ty T o cs hv wv s :=
  ⟨(ht.block T h.lt (hF T (.inl rfl))).trans h.blk, h.at0, h.at1, ht.own h.oh fun g hg => hF g (.inr (.inl hg)), ht.own h.ow fun g hg => hF g (.inr (.inr hg)), h.apart⟩
theorem TabAt.below (h : TabAt w ty T o cs hv wv s) (hb : Below w.heap.size w w1) : TabAt w1 ty T o cs hv wv s := h.turn (Turns.of_below (F := fun _ => False) hb) fun _ _ hf => hf
theorem TabAt.held (h : TabAt w ty T o cs hv wv s) : IsOps w hv s.1 := isOps_row h.oh rfl
theorem TabAt.waits (h : TabAt w ty T o cs hv wv s) : IsOps w wv s.2 := isOps_row h.ow rfl
theorem TabAt.put (h : TabAt w ty T o cs hv wv s) : put2 cs o hv wv = cs := put2_same h.at0 h.at1
theorem at_put0 {a b : Value} (h : o + 1 < cs.size) : (put2 cs o a b)[o]? = some a := by rw [put2_at, if_neg (by omega), if_pos rfl, if_pos (by omega)]
theorem at_put1 {a b : Value} (h : o + 1 < cs.size) : (put2 cs o a b)[o + 1]? = some b := by rw [put2_at, if_pos rfl, if_pos h]
theorem TabAt.room (h : TabAt w ty T o cs hv wv s) : o + 1 < cs.size := (Array.getElem?_eq_some_iff.1 h.at1).1
/-- A call on a table: what it is then, and what has turned. -/
def TabStep (w w' : World) (ty : TypeId) (T o : Nat) (cs : Array Value) (hv wv : Value) (s : Tab2) : Prop := ∃ hv' wv', TabAt w' ty T o (put2 cs o hv' wv') hv' wv' s ∧ Turns (foot T hv wv) w w' ∧ ∀ k, foot T hv' wv' k → foot T hv wv k ∨ w.heap.size ≤ k
theorem TabStep.same (h : TabAt w ty T o cs hv wv s) (hb : Below w.heap.size w w1) : TabStep w w1 ty T o cs hv wv s := ⟨hv, wv, by rw [h.put]; exact h.below hb, Turns.of_below hb, fun _ hk => .inl hk⟩
theorem TabStep.trans {w2 : World} {hv1 wv1 a b : Value} {s2 : Tab2} (ht : Turns (foot T hv wv) w w1) (hf : ∀ k, foot T hv1 wv1 k → foot T hv wv k ∨ w.heap.size ≤ k) (h2 : TabStep w1 w2 ty T o (put2 cs o a b) hv1 wv1 s2) : TabStep w w2 ty T o cs hv wv s2 := by
  obtain ⟨hv2, wv2, h3, h4, h5⟩ := h2
  rw [put2_put2] at h3
  refine ⟨hv2, wv2, h3, ht.trans h4 fun k hk hk2 => ?_, fun k hk => ?_⟩
  · rcases hf k hk2 with h | h
    · exact h
    · omega
  · rcases h5 k hk with h | h
    · exact hf k h
    · exact .inr (Nat.le_trans ht.size h)
/-- Behind steps that turned nothing of it. -/
theorem TabStep.later {w2 : World} {s2 : Tab2} (ht : Turns (foot T hv wv) w w1) (h2 : TabStep w1 w2 ty T o cs hv wv s2) : TabStep w w2 ty T o cs hv wv s2 := by
  obtain ⟨hv2, wv2, h3, h4, h5⟩ := h2
  refine ⟨hv2, wv2, h3, ht.trans h4 fun _ _ hk => hk, fun k hk => ?_⟩
  rcases h5 k hk with h | h
  · exact .inl h
  · exact .inr (Nat.le_trans ht.size h)
theorem block_set {k : Nat} {u : Value} (h : w.heap[T]? = some (.cells cs ty (0, 0))) : (w.setCell ⟨T, k, none⟩ u).heap[T]? = some (.cells (cs.setIfInBounds k u) ty (0, 0)) := by
  unfold World.setCell
  simp [Array.getElem?_modify, h]
/-- The row of those that are held is another one, in a block of its own. -/
theorem tab_set0 {l : List Op3} (h : TabAt w ty T o cs hv wv s) (ht : Turns (fun k => hv.ownBlock = some k) w w1) (ho : w1.ownsRow (T + 1) 166 3 v l.length (flat l)) (hv1 : ∀ g, v.ownBlock = some g → hv.ownBlock = some g ∨ w.heap.size ≤ g) : TabStep w (w1.setCell ⟨T, o, none⟩ v) ty T o cs hv wv (l, s.2) := by
  have hl := h.lt
  have hT : w1.heap[T]? = some (.cells cs ty (0, 0)) := (ht.block T hl (fun e => by have := (h.oh.lt T e).1; omega)).trans h.blk
  refine ⟨v, wv, ⟨?_, at_put0 h.room, at_put1 h.room, ownsRow_setCell_below ho (by show T < T + 1; omega) _, ?_, fun g h1 h2 => ?_⟩, (ht.mono fun k _ e => .inr (.inl e)).setCell (.inl (.inl rfl)) _, fun k hk => ?_⟩
  · rw [block_set hT, put2_0 v h.at1]
  · exact ownsRow_setCell_below (ht.own h.ow fun g hg e => h.apart g e hg) (by show T < T + 1; omega) _
  · rcases hv1 g h1 with h3 | h3
    · exact h.apart g h3 h2
    · have := (h.ow.lt g h2).2; omega
  · rcases hk with hk | hk | hk
    · exact .inl (.inl hk)
    · rcases hv1 k hk with h3 | h3
      · exact .inl (.inr (.inl h3))
      · exact .inr h3
    · exact .inl (.inr (.inr hk))
/-- The same of those that wait. -/
theorem tab_set1 {l : List Op3} (h : TabAt w ty T o cs hv wv s) (ht : Turns (fun k => wv.ownBlock = some k) w w1) (ho : w1.ownsRow (T + 1) 166 3 v l.length (flat l)) (hv1 : ∀ g, v.ownBlock = some g → wv.ownBlock = some g ∨ w.heap.size ≤ g) : TabStep w (w1.setCell ⟨T, o + 1, none⟩ v) ty T o cs hv wv (s.1, l) := by
  have hl := h.lt
  have hT : w1.heap[T]? = some (.cells cs ty (0, 0)) := (ht.block T hl (fun e => by have := (h.ow.lt T e).1; omega)).trans h.blk
  refine ⟨hv, v, ⟨?_, at_put0 h.room, at_put1 h.room, ?_, ownsRow_setCell_below ho (by show T < T + 1; omega) _, fun g h1 h2 => ?_⟩, (ht.mono fun k _ e => .inr (.inr e)).setCell (.inl (.inl rfl)) _, fun k hk => ?_⟩
  · rw [block_set hT, put2_1 v h.at0]
  · exact ownsRow_setCell_below (ht.own h.oh fun g hg e => h.apart g hg e) (by show T < T + 1; omega) _
  · rcases hv1 g h2 with h3 | h3
    · exact h.apart g h1 h3
    · have := (h.oh.lt g h1).2; omega
  · rcases hk with hk | hk | hk
    · exact .inl (.inl hk)
    · exact .inl (.inr (.inl hk))
    · rcases hv1 k hk with h3 | h3
      · exact .inl (.inr (.inr h3))
      · exact .inr h3
/-- The same, its slices named: those that wait are none. -/
theorem tab_none1 (h : TabAt w ty T o cs hv wv s) (hb : Below w.heap.size w w1) : TabAt (w1.setCell ⟨T, o + 1, none⟩ (.slice none 0 0)) ty T o (put2 cs o hv (.slice none 0 0)) hv (.slice none 0 0) (s.1, []) ∧ Turns (foot T hv wv) w (w1.setCell ⟨T, o + 1, none⟩ (.slice none 0 0)) := by
  have hl := h.lt
  have hT : w1.heap[T]? = some (.cells cs ty (0, 0)) := (hb.block T hl).trans h.blk
  refine ⟨⟨?_, at_put0 h.room, at_put1 h.room, ownsRow_setCell_below ((Turns.of_below (F := fun _ => False) hb).own h.oh fun _ _ hf => hf) (by show T < T + 1; omega) _, World.ownsRow_nil _ _ _ _, fun g _ h2 => by simp [Value.ownBlock] at h2⟩, (Turns.of_below hb).setCell (.inl (.inl rfl)) _⟩
  rw [block_set hT, put2_1 _ h.at0]
/-- A lock that is held is another one. -/
theorem tab_put {g n c : Nat} (h : TabAt w ty T o cs (.slice (some ⟨g, 0, none⟩) n c) wv s) (hn : s.1.length = n) {k : Nat} (hk : k < n) (x : Op3) :
    TabStep w (((w.setCell ⟨g, k * 3, none⟩ (.int .i64 x.1)).setCell ⟨g, k * 3 + 1, none⟩ (.int .i64 x.2.1)).setCell ⟨g, k * 3 + 2, none⟩ (.int .i64 x.2.2)) ty T o cs (.slice (some ⟨g, 0, none⟩) n c) wv (s.1.set k x, s.2) := by
  have hl := h.lt
  have hg := (h.oh.lt g rfl).1
  have hoh := h.oh
  rw [hn] at hoh
  have ht : Turns (fun j => j = g) w (((w.setCell ⟨g, k * 3, none⟩ (.int .i64 x.1)).setCell ⟨g, k * 3 + 1, none⟩ (.int .i64 x.2.1)).setCell ⟨g, k * 3 + 2, none⟩ (.int .i64 x.2.2)) := by
    refine Turns.setCell (Turns.setCell (Turns.setCell (Turns.refl _ w) ?_ _) ?_ _) ?_ _ <;> exact .inl rfl
  refine ⟨_, wv, ⟨by rw [h.put]; exact (ht.block T hl (by omega)).trans h.blk, at_put0 h.room, at_put1 h.room, ?_, ht.own h.ow fun j hj e => h.apart j (by rw [e]; rfl) hj, h.apart⟩, ht.mono fun j _ e => .inr (.inl (by rw [e]; rfl)), fun j hj => .inl hj⟩
  simp only [List.length_set]
  rw [hn]
  exact own_put3 hoh hn hk x
/-- Behind an append to a row. -/
theorem turn_grown {w2 : World} {obj : Obj} (hgr : (w.drew.alloc obj).grownBy w2 hv.ownBlock) : Turns (fun k => hv.ownBlock = some k) w w2 :=
  ((Turns.refl _ w).drew.alloc obj).grown hgr fun _ hk => .inl hk
end
end Go.Proofs.YtccjognnehoodahGreat

namespace Go.Proofs.YtccjognnehoodahGreat
open Go.RowKit
open Go.Maps (Keyed)

/-- An element, as it is. -/
def heldElem (v : Value) : Option (DataW Value × List MemPlace) := some (.held v, [])
theorem KI : Keyed Tryz.prog 3 := Maps.int_keyed Tryz.underlying3
abbrev Wf (x : Int) : Prop := (Lit.int .i64 x).wf = true
theorem wf_deal {x : Int} (h1 : 1 ≤ x) (h6 : x ≤ 6) : Wf x := WalkArith.wf_i64 (by omega)
theorem keyI {x : Int} (h : Wf x) : keyOf Tryz.prog 3 (.int .i64 x) = some (.int .i64 x) := Maps.keyOf_int_mk Tryz.underlying3 h
/-- A map in memory, key by key. -/
def MapIs (w : World) (b : Nat) (f : Int → Option Value) (m : Nat) : Prop :=
  ∃ D : DataW Value, w.ownsMap Tryz.prog 3 heldElem b m D ∧ Maps.size D = m ∧ (∀ x, Wf x → Maps.has D (.int .i64 x) = (f x).isSome) ∧ (∀ x v, Wf x → f x = some v → ∀ z, D.atKey (.int .i64 x) z = .held v) ∧ ∀ x, (f x).isSome = true → 1 ≤ x ∧ x ≤ 6
theorem lits_len : ∀ (l m : List Lit), l.Pairwise (· ≠ ·) → (∀ x ∈ l, x ∈ m) → l.length ≤ m.length := by
  intro l
  induction l with
  | nil => intro m _ _; exact Nat.zero_le _
  | cons x r ih =>
    intro m hp hm
    rw [List.pairwise_cons] at hp
    obtain ⟨a, b, rfl⟩ := List.append_of_mem (hm x List.mem_cons_self)
    have h1 := ih (a ++ b) hp.2 fun y hy => by
      have h2 := hm y (List.mem_cons_of_mem _ hy)
      rw [List.mem_append, List.mem_cons] at h2
      rw [List.mem_append]
      rcases h2 with h2 | h2 | h2
      · exact .inl h2
      · exact absurd h2.symm (hp.1 y hy)
      · exact .inr h2
    simp only [List.length_append, List.length_cons] at h1 ⊢
    omega
theorem own_tight {w : World} {b n : Nat} {D : DataW Value} (h : w.ownsMap Tryz.prog 3 heldElem b n D) : w.ownsMap Tryz.prog 3 heldElem b (Maps.size D) D := by
  obtain ⟨es, clock, hb, F, hs, rfl⟩ := h
  refine ⟨es, clock, hb, F, ?_, rfl⟩
  simp [Maps.size, length_sorted]
theorem own_int {w : World} {b n : Nat} {D : DataW Value} (h : w.ownsMap Tryz.prog 3 heldElem b n D) : ∃ es, D = .map es ∧ es.Pairwise (fun p q => p.1 ≠ q.1) ∧ ∀ p ∈ es, ∃ x, Wf x ∧ p.1 = .int .i64 x ∧ Maps.has D p.1 = true := by
  obtain ⟨es, h1, h2, h3⟩ := h.entries KI
  refine ⟨es, h1, h2, fun p hp => ?_⟩
  have hh : Maps.has D p.1 = true := by rw [h1]; exact List.any_eq_true.2 ⟨p, hp, WideAt.sameKey_self (h3 p hp)⟩
  obtain ⟨ms, clock, hb, F, hs, hD⟩ := h
  rw [h1] at hD
  have hD' : es = (ms.toList.map (WideElems.rg Tryz.prog 3 heldElem)).foldr DataW.insert [] := by injection hD
  rw [hD', mem_sorted] at hp
  obtain ⟨e, he, rfl⟩ := List.mem_map.1 hp
  obtain ⟨y, hy⟩ := F.reads e he
  obtain ⟨x, -, hx, hw⟩ := Maps.keyOf_int_inv Tryz.underlying3 (WideElems.rd_key hy)
  exact ⟨x, hw, by rw [WideElems.rg_of hy]; exact hx, hh⟩
section
variable {w w1 : World} {b m : Nat} {f : Int → Option Value}
theorem MapIs.lt (h : MapIs w b f m) : b < w.heap.size := by obtain ⟨D, h1, _⟩ := h; exact h1.lt
theorem MapIs.small (h : MapIs w b f m) : m ≤ 6 := by
  obtain ⟨D, h1, h2, h3, h4, h5⟩ := h
  obtain ⟨es, e1, e2, e3⟩ := own_int h1
  have h6 := lits_len (es.map (·.1)) [.int .i64 1, .int .i64 2, .int .i64 3, .int .i64 4, .int .i64 5, .int .i64 6] (List.pairwise_map.2 e2) fun k hk => by
    obtain ⟨p, hp, rfl⟩ := List.mem_map.1 hk
    obtain ⟨x, hw, hx, hh⟩ := e3 p hp
    rw [hx] at hh
    rw [h3 x hw] at hh
    have h7 := h5 x hh
    rw [hx]
    rcases six h7.1 h7.2 with rfl | rfl | rfl | rfl | rfl | rfl <;> simp
  rw [← h2, e1]
  simpa [Maps.size] using h6
theorem MapIs.turn {F : Nat → Prop} (h : MapIs w b f m) (ht : Turns F w w1) (hF : ¬ F b) : MapIs w1 b f m := by
  have hl := h.lt
  obtain ⟨D, ⟨es, clock, hb, r⟩, h2⟩ := h
  exact ⟨D, ⟨es, clock, (ht.block b hl hF).trans hb, r⟩, h2⟩
theorem MapIs.drew (h : MapIs w b f m) : MapIs w.drew b f m := h
theorem MapIs.congr {g : Int → Option Value} (h : MapIs w b f m) (e : ∀ x, g x = f x) : MapIs w b g m := by
  obtain rfl : g = f := funext e
  exact h
theorem mapIs_made (w : World) : MapIs (w.alloc (.map #[] 0)) w.heap.size (fun _ => none) 0 :=
  ⟨.map [], World.ownsMap_made w _ _ _, rfl, fun x _ => rfl, fun x v _ h => (by cases h), fun x h => (by cases h)⟩
theorem turned_turns {w' : World} (h : w.mapTurned w' b) : Turns (fun k => k = b) w w' := (Turns.refl _ w).grown h.grown fun _ hk => .inl (Option.some.inj hk).symm
theorem key_ne {x y : Int} (h : x ≠ y) : Lit.int .i64 x ≠ Lit.int .i64 y := fun e => h (by injection e)
theorem key_lit {x : Int} (h : Wf x) : WideAt.IsKeyLit (.int .i64 x) := KI.key (keyI h)
/-- What is looked up. -/
theorem MapIs.look (c : Bool) {t e : TypeId} {z : Value} {x : Int} (h : MapIs w b f m) (ht : Tryz.prog.underlying t = some (.map 3 e)) (hz : (zeroValue e).run Tryz.prog w = .ok z w) (hx : Wf x) :
    (Instr.lookup t (.map (some b)) (.int .i64 x) c).run Tryz.prog w = .ok (if c then .tuple #[(f x).getD z, .bool (f x).isSome] else (f x).getD z) w := by
  obtain ⟨D, h1, h2, h3, h4, h5⟩ := h
  have hv : ∀ v ps, heldElem v = some (D.atKey (.int .i64 x) (.held z), ps) → v = (f x).getD z := fun v ps hv => by
    simp only [heldElem, Option.some.injEq, Prod.mk.injEq] at hv
    cases hf : f x with
    | some u =>
      rw [h4 x u hx hf] at hv
      have := hv.1
      injection this with this
    | none =>
      rw [Maps.atKey_of_not_has (by rw [h3 x hx, hf]; rfl)] at hv
      have := hv.1
      injection this with this
  cases c with
  | true =>
    obtain ⟨v, ps, hr, hR⟩ := h1.look_ok KI ht hz (zd := .held z) (zp := []) rfl (keyI hx)
    rw [hr, h3 x hx, hv v ps hR]
    rfl
  | false =>
    obtain ⟨v, ps, hr, hR⟩ := h1.lookup KI ht hz (zd := .held z) (zp := []) rfl (keyI hx)
    rw [hr, hv v ps hR]
    rfl
/-- What is laid in. -/
theorem MapIs.store {t e : TypeId} {x : Int} {v : Value} (h : MapIs w b f m) (ht : Tryz.prog.underlying t = some (.map 3 e)) (h1 : 1 ≤ x) (h6 : x ≤ 6) :
    ∃ w', (Instr.mapUpdate t (.map (some b)) (.int .i64 x) v).run Tryz.prog w = .ok () w' ∧ MapIs w' b (setF f x (some v)) (if (f x).isSome then m else m + 1) ∧ Turns (fun k => k = b) w w' := by
  have hs := h.small
  have hx := wf_deal h1 h6
  obtain ⟨D, k1, k2, k3, k4, k5⟩ := h
  obtain ⟨w', hr, ho, htu⟩ := k1.store KI ht (by unfold maxLen; omega) (keyI hx) (d := .held v) (ps := []) rfl
  have hsz : Maps.size (D.put (.int .i64 x) (.held v)) = if (f x).isSome then m else m + 1 := by
    rw [Maps.size_put (k1.tidy KI), k3 x hx, k2]
  refine ⟨w', hr, ⟨_, ?_, hsz, fun y hy => ?_, fun y u hy hu => ?_, fun y hy => ?_⟩, turned_turns htu⟩
  · rw [← hsz]; exact own_tight ho
  · by_cases e : y = x
    · subst e; rw [setF_same, Maps.has_put_same k1.isMap (key_lit hx)]; rfl
    · rw [setF_other _ _ e, Maps.has_put_other (key_ne e)]; exact k3 y hy
  · intro z
    by_cases e : y = x
    · subst e
      rw [setF_same] at hu
      rw [Maps.atKey_put_same k1.isMap (key_lit hx), Option.some.inj hu]
    · rw [setF_other _ _ e] at hu
      rw [Maps.atKey_put_other (key_ne e)]; exact k4 y u hy hu z
  · by_cases e : y = x
    · subst e; exact ⟨h1, h6⟩
    · rw [setF_other _ _ e] at hy; exact k5 y hy
/-- What is struck out. -/
theorem MapIs.drop {t e : TypeId} {x : Int} (h : MapIs w b f m) (ht : Tryz.prog.underlying t = some (.map 3 e)) (hx : Wf x) (ty : TypeId) :
    ∃ w' m', (Builtin.delete_ #[t, 3] ty #[.map (some b), .int .i64 x]).run Tryz.prog w = .ok (.tuple #[]) w' ∧ MapIs w' b (setF f x none) m' ∧ Turns (fun k => k = b) w w' := by
  obtain ⟨D, k1, k2, k3, k4, k5⟩ := h
  obtain ⟨w', hr, ho, htu⟩ := k1.drop KI ht (keyI hx) ty
  refine ⟨w', Maps.size (D.del (.int .i64 x)), hr, ⟨_, own_tight ho, rfl, fun y hy => ?_, fun y u hy hu => ?_, fun y hy => ?_⟩, turned_turns htu⟩
  · by_cases e : y = x
    · subst e; rw [setF_same, Maps.has_del_same]; rfl
    · rw [setF_other _ _ e, Maps.has_del_other (key_ne e)]; exact k3 y hy
  · intro z
    by_cases e : y = x
    · subst e
      rw [setF_same] at hu
      cases hu
    · rw [setF_other _ _ e] at hu
      rw [Maps.atKey_del_other (key_ne e)]; exact k4 y u hy hu z
  · by_cases e : y = x
    · subst e; rw [setF_same] at hy; cases hy
    · rw [setF_other _ _ e] at hy; exact k5 y hy
end
section
variable (w : World) {ops : Array Oper} {rest : List Oper} {o : Oper} {a : Act} {Q : Exit → Act → World → Prop}
theorem wp_drop (hg : o.guard = none) (p x : Operand) (t : TypeId) (hop : o.op = Op.call { callee := Callee.builtin Builtin.delete, args := #[p, x], argTypes := #[t, 3] })
    (e : TypeId) (ht : Tryz.prog.underlying t = some (.map 3 e)) (b m : Nat) (f : Int → Option Value) (hm : a.eval p = .map (some b)) (h : MapIs w b f m) (y : Int) (hx : a.eval x = .int .i64 y) (hy : Wf y)
    (hK : ∀ w' m', MapIs w' b (setF f y none) m' → Turns (fun k => k = b) w w' → wpList Tryz.prog ops Q rest (a.put o.dst (.tuple #[])) w') : wpList Tryz.prog ops Q (o :: rest) a w := by
  refine wpList_plain hg fun K' hK' => ?_
  obtain ⟨w', m', hrun, r1, r2⟩ := h.drop ht hy o.type
  unfold Oper.wp
  simp [execOp, hop, resolve, invoke, builtin, hm, hx, hrun, Result.andThen]
  exact hK' _ _ (hK w' m' r1 r2)
theorem wp_len (hg : o.guard = none) (p : Operand) (t : TypeId) (hop : o.op = Op.call { callee := Callee.builtin Builtin.len, args := #[p], argTypes := #[t] })
    (e : TypeId) (ht : Tryz.prog.underlying t = some (.map 3 e)) (b m : Nat) (f : Int → Option Value) (hm : a.eval p = .map (some b)) (h : MapIs w b f m)
    (hK : wpList Tryz.prog ops Q rest (a.put o.dst (.int .i64 m)) w) : wpList Tryz.prog ops Q (o :: rest) a w := by
  obtain ⟨D, k1, k2, -⟩ := h
  exact wpList_len_own w hg p t hop 3 e ht heldElem b m D hm k1 (by rw [k2]; exact hK)
theorem wp_store (hg : o.guard = none) (p x v : Operand) (t : TypeId) (hop : o.op = Op.mapUpdate t p x v)
    (e : TypeId) (ht : Tryz.prog.underlying t = some (.map 3 e)) (b m : Nat) (f : Int → Option Value) (hm : a.eval p = .map (some b)) (h : MapIs w b f m) (y : Int) (val : Value) (hx : a.eval x = .int .i64 y) (hv : a.eval v = val) (h1 : 1 ≤ y) (h6 : y ≤ 6)
    (hK : ∀ w', MapIs w' b (setF f y (some val)) (if (f y).isSome then m else m + 1) → Turns (fun k => k = b) w w' → wpList Tryz.prog ops Q rest (a.put o.dst undef) w') : wpList Tryz.prog ops Q (o :: rest) a w := by
  refine wpList_plain hg fun K' hK' => ?_
  obtain ⟨w', hrun, r1, r2⟩ := h.store (v := val) ht h1 h6
  unfold Oper.wp
  simp [execOp, hop, hm, hx, hv, hrun, Result.andThen]
  exact hK' _ _ (hK w' r1 r2)
theorem wp_look (hg : o.guard = none) (p x : Operand) (t : TypeId) (c : Bool) (hop : o.op = Op.lookup t p x c)
    (e : TypeId) (ht : Tryz.prog.underlying t = some (.map 3 e)) (z : Value) (hz : (zeroValue e).run Tryz.prog w = .ok z w) (b m : Nat) (f : Int → Option Value) (hm : a.eval p = .map (some b)) (h : MapIs w b f m) (y : Int) (hx : a.eval x = .int .i64 y) (hy : Wf y) (u : Value) (b0 : Bool) (hu : (f y).getD z = u) (hb : (f y).isSome = b0)
    (hK : wpList Tryz.prog ops Q rest (a.put o.dst (if c then .tuple #[u, .bool b0] else u)) w) : wpList Tryz.prog ops Q (o :: rest) a w := by
  refine wpList_plain hg fun K' hK' => ?_
  have hrun := h.look c ht hz hy
  rw [hu, hb] at hrun
  unfold Oper.wp
  simp only [execOp, hop, hm, hx, Sem.run_bind, hrun, Result.andThen]
  exact hK' _ _ hK
/-- Struck out, as one step of a region that draws. -/
theorem step_drop {K : Act → World → Prop} {E : Prop} (hg : o.guard = none) (p x : Operand) (t : TypeId) (hop : o.op = Op.call { callee := Callee.builtin Builtin.delete, args := #[p, x], argTypes := #[t, 3] })
    (e : TypeId) (ht : Tryz.prog.underlying t = some (.map 3 e)) (b m : Nat) (f : Int → Option Value) (hm : a.eval p = .map (some b)) (h : MapIs w b f m) (y : Int) (hx : a.eval x = .int .i64 y) (hy : Wf y)
    (hK : ∀ w' m', MapIs w' b (setF f y none) m' → Turns (fun k => k = b) w w' → K (a.put o.dst (.tuple #[])) w') : if Region.wanted o (yielded ops a.tmps) = true then Oper.wp Tryz.prog o a w K Q else E := by
  have hw : Region.wanted o (yielded ops a.tmps) = true := by simp [Region.wanted, hg]
  rw [if_pos hw]
  obtain ⟨w', m', hrun, r1, r2⟩ := h.drop ht hy o.type
  unfold Oper.wp
  simp [execOp, hop, resolve, invoke, builtin, hm, hx, hrun, Result.andThen]
  exact hK w' m' r1 r2
end
end Go.Proofs.YtccjognnehoodahGreat
