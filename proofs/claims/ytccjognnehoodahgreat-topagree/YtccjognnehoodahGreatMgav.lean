/-
  PROVED HERE: view.look gives of names what each op reads, in a map of its own, and what was written last. Old memory stays as it was.
  Conditions: none.
  PROVED HERE: view.sight's isOf tells of names whether they come to the same sight: the same names, each reads the same, the same is left. Old memory stays as it was.
  Conditions: none.
  PROVED HERE: odds.Names gives the names of a list's ops; of a wrong list Check's error. Old memory stays as it was.
  Conditions: none.
  PROVED HERE: view.doneNames gives the names of the ops of what is done, view.Same tells whether two lists look the same; of a wrong list Check's error. Old memory stays as it was.
  Conditions: none.
-/
import Derived.Test.YtccjognnehoodahGreatMgau
import Derived.Deep.QuietTactic
import Derived.BigQuiet
import Derived.WalkSmall
import Derived.Test.YtccjognnehoodahGreatMgac
namespace Go.Proofs.YtccjognnehoodahGreat
open Go.RowKit Go.Maps

/-- A name as a map's element. -/
def nmD (n : Nm) : DataW Unit := .agg [.lit (.int .i64 n.1.1), .lit (.int .i64 n.1.2.1), .lit (.int .i64 n.1.2.2), .lit (.int .i64 n.2)]
def nmElem (v : Value) : Option (DataW Unit × List MemPlace) :=
  match v with
  | .agg a =>
    match a.toList with
    | [.int .i64 p, .int .i64 q, .int .i64 r, .int .i64 s] => some (.agg [.lit (.int .i64 p), .lit (.int .i64 q), .lit (.int .i64 r), .lit (.int .i64 s)], [])
    | _ => none
  | _ => none
theorem nmElem_mk (n : Nm) : nmElem (nmV n) = some (nmD n, []) := rfl
theorem nmElem_inv {v : Value} {n : Nm} {ps : List MemPlace} (h : nmElem v = some (nmD n, ps)) : v = nmV n := by
  unfold nmElem at h
  split at h
  · rename_i a
    split at h
    · rename_i p q r s hl
      simp only [Option.some.injEq, Prod.mk.injEq, nmD, DataW.agg.injEq, List.cons.injEq, DataW.lit.injEq, Lit.int.injEq, true_and, and_true] at h
      obtain ⟨⟨rfl, rfl, rfl, rfl⟩, _⟩ := h
      unfold nmV
      rw [← Array.toArray_toList (xs := a), hl]
    · cases h
  · cases h
/-- What the map holds when k names are in. -/
def Froms (D : DataW Unit) (l : List Op3) (k : Nat) : Prop :=
  ∀ n : Nm, Small n → (∀ i, i < k → nameAt l i = n → Maps.has D (nmL n) = true ∧ D.atKey (nmL n) (nmD zN) = nmD (srcN l i)) ∧ ((∀ i, i < k → nameAt l i ≠ n) → Maps.has D (nmL n) = false)
theorem froms_start (l : List Op3) : Froms (.map []) l 0 := fun n _ => ⟨fun i hi => absurd hi (by omega), fun _ => rfl⟩
theorem froms_step {D : DataW Unit} {l : List Op3} {k : Nat} (hm : IsMap D) (hk : k < l.length) (hs : Small (nameAt l k)) (h : Froms D l k) : Froms (D.put (nmL (nameAt l k)) (nmD (srcN l k))) l (k + 1) := by
  intro n hn
  by_cases he : nameAt l k = n
  · subst he
    refine ⟨fun i hi hin => ⟨has_put_same hm (fLaw.key (nm_key _ hn)) _, ?_⟩, fun hno => absurd rfl (hno k (by omega))⟩
    rw [atKey_put_same hm (fLaw.key (nm_key _ hn)), name_inj (by omega) hk hin]
  · have hne : nmL n ≠ nmL (nameAt l k) := fun hh => he (nm_inj hs hn hh.symm)
    rw [has_put_other hne, atKey_put_other hne]
    obtain ⟨h1, h2⟩ := h n hn
    refine ⟨fun i hi hin => h1 i ?_ hin, fun hno => h2 fun i hi => hno i (by omega)⟩
    rcases Nat.lt_or_ge i k with h3 | h3
    · exact h3
    · exact absurd (show nameAt l k = n by rw [show k = i by omega]; exact hin) he
theorem froms_size {D : DataW Unit} {l : List Op3} {k : Nat} (ht : Tidy D) (hk : k < l.length) (hs : Small (nameAt l k)) (h : Froms D l k) (hz : Maps.size D = k) (d : DataW Unit) : Maps.size (D.put (nmL (nameAt l k)) d) = k + 1 := by
  rw [size_put ht, (h _ hs).2 fun i hi he => absurd (name_inj (by omega) hk he) (by omega), hz]
  simp
theorem nm_made (n : Int) (W : World) : (Instr.makeMap 95 (some (.int .i64 n))).run Tryz.prog W = .ok (.map (some W.heap.size)) (W.alloc (.map #[] 0)) := by
  simp [Instr.makeMap, run_underlying Tryz.underlying95, asInt]
  rfl
/-- What view.look gives, in memory. -/
structure Looked (w : World) (M : Nat) (l : List Op3) (k : Nat) (D : DataW Unit) : Prop where
  own : w.ownsMap Tryz.prog 97 nmElem M k D
  froms : Froms D l k
  size : Maps.size D = k
theorem Looked.same {w w' : World} {M k : Nat} {l : List Op3} {D : DataW Unit} (h : Looked w M l k D) (hb : w'.heap[M]? = w.heap[M]?) : Looked w' M l k D where
  own := by
    obtain ⟨es, clock, h1, h2⟩ := h.own
    exact ⟨es, clock, hb.trans h1, h2⟩
  froms := h.froms
  size := h.size

set_option maxHeartbeats 4000000 in
theorem look1_any (l : List Op3) (k M c : Nat) (D : DataW Unit) (W : World) (hl : l.length ≤ 40) (hop : ∀ o ∈ l, isOpB o = true) (hk : k < l.length) (hL : Looked W M l k D) (hc : W.cell? ⟨c, 0, none⟩ = some (.map (some M))) :
    Calls Tryz.prog 85 #[nmV (nameAt l k), nmV (srcN l k), .pointer (some ⟨c, 0, none⟩)] W fun e W' => e = .returned (.bool true) ∧ (∃ D', Looked W' M l (k + 1) D') ∧ Save M W.heap.size W W' := by
  have HK : Hid (keyOf Tryz.prog 97 (nmV (nameAt l k)) = some (nmL (nameAt l k))) := nm_key _ (small_name hl hop hk)
  have HN : Hid (∀ W' , W'.ownsMap Tryz.prog 97 nmElem M (k + 1) (D.put (nmL (nameAt l k)) (nmD (srcN l k))) → Looked W' M l (k + 1) (D.put (nmL (nameAt l k)) (nmD (srcN l k)))) := fun W' h => ⟨h, froms_step hL.own.isMap hk (small_name hl hop hk) hL.froms, froms_size (hL.own.tidy fLaw) hk (small_name hl hop hk) hL.froms hL.size _⟩
  have HOWN : Hid (W.ownsMap Tryz.prog 97 nmElem M k D) := hL.own
  have hMl := hL.own.lt
  have hcl := World.block_lt_of_cell? W _ hc
  simp only at hcl
  clear hop hL
  obtain ⟨⟨⟨t, a, x⟩, m⟩, hnm⟩ : ∃ n, nameAt l k = n := ⟨_, rfl⟩
  obtain ⟨⟨⟨s1, s2, s3⟩, sm⟩, hsr⟩ : ∃ n, srcN l k = n := ⟨_, rfl⟩
  rw [hnm] at HK
  rw [hnm, hsr] at HN ⊢
  clear hnm hsr
  unfold nmV at HK ⊢
  simp only at HK ⊢
  go_enter Tryz.func85, Tryz.ntmps85
  go_wp2_with (at_mapUpdate; refine wpList_mapUpdate_own (H := Unit) _ rfl (.tmp 6) (.tmp 7) (.tmp 8) 95 rfl 97 97 fLaw Tryz.underlying95 nmElem M k D rfl ((HOWN.out.alloc _).alloc _) (by unfold maxLen; omega) (.agg #[.int .i64 t, .int .i64 a, .int .i64 x, .int .i64 m]) (.agg #[.int .i64 s1, .int .i64 s2, .int .i64 s3, .int .i64 sm]) (nmL ((t, a, x), m)) rfl rfl HK.out (nmD ((s1, s2, s3), sm)) [] rfl ?_; intro w2 hown2 hgr2)
  go_ret
  exact ⟨rfl, ⟨_, HN.out _ hown2⟩, Save.of_grown (((World.grownBy_alloc _ _ _).trans (World.grownBy_alloc _ _ _)).trans hgr2)⟩
theorem look1_call (args : Array Value) (W : World) : (callFunc 85 args).run Tryz.prog W = .ok (.enter 85 args) W := by
  kernel_rfl
/-- A struct of two fields is built, of many cells. -/
theorem wpList_built {P : Program} {ops : Array Oper} {rest : List Oper} {o : Oper} {a : Act} {w : World} {Q : Exit → Act → World → Prop} (hg : o.guard = none) (t : TypeId) (p q : Operand) (ho : o.op = .build t #[(0, p), (1, q)]) (v u : Value) (hp : a.eval p = v) (hq : a.eval q = u) (cells : Array Value)
    (hc : P.built t [(0, v), (1, u)] = some cells) (h : wpList P ops Q rest (a.put o.dst (.agg cells)) w) : wpList P ops Q (o :: rest) a w := by
  have hc' : P.built t ((#[(0, p), (1, q)] : Array (Nat × Operand)).map fun (i, x) => (i, a.eval x)).toList = some cells := by
    simpa [hp, hq] using hc
  exact wpList_build hg t _ ho (by rw [hc']; rfl) (by rw [hc']; exact h)
def zero29 : Array Value := (Value.map none :: (cells28 fun _ => zN).toList).toArray
theorem zero29_size : zero29.size = 29 := by simp [zero29, cells28_size]
/-- Memory as view.look has it when it goes over the names. -/
structure Begins (w W : World) : Prop where
  out : W.heap[w.heap.size]? = some (.cells zero29 101 (0, 0))
  map : W.heap[w.heap.size + 1]? = some (.map #[] 0)
  own : W.ownsMap Tryz.prog 97 nmElem (w.heap.size + 1) 0 (.map [])
  cell : W.cell? ⟨w.heap.size + 1 + 1, 0, none⟩ = some (.map (some (w.heap.size + 1)))
  below : Below w.heap.size w W
theorem look_split {F : FuncId} {args : Array Value} {Q : Ending → World → Prop} (w : World) (Z : Array Value) (hZ : zero29 = Z) (h : ∀ W, Begins w W → Calls Tryz.prog F args W Q) :
    Calls Tryz.prog F args (((w.alloc (.cells Z 101)).alloc (.map #[] 0)).alloc (.cells #[.map (some (w.heap.size + 1))] 95)) Q := by
  subst hZ
  have h1 : (w.alloc (.cells zero29 101)).heap.size = w.heap.size + 1 := by simp
  have hm := World.ownsMap_made (w.alloc (.cells zero29 101)) Tryz.prog 97 nmElem
  rw [h1] at hm
  refine h _ ⟨?_, ?_, hm.alloc _, ?_, (((Below.refl _ w).alloc (Nat.le_refl _) _).alloc (by simp) _).alloc (by simp; omega) _⟩
  · rw [heap_alloc_old _ _ (by simp; omega), heap_alloc_old _ _ (by simp), heap_alloc_new]
  · rw [heap_alloc_old _ _ (by simp)]
    have h2 := heap_alloc_new (w.alloc (.cells zero29 101)) (.map #[] 0)
    rw [h1] at h2
    exact h2
  · rw [World.cell?_alloc_at _ _ _ _ (by simp)]; rfl

theorem last_split {c : Code} {Q : Exit → Act → World → Prop} {a : Act} (w : World) (Z : Array Value) (f : Nat → Nm) (hZ : cells28 (fun _ => zN) = Z) (h : ∀ W, LastAt W w.heap.size f → Below w.heap.size w W → Code.wp Tryz.prog c Q a W) :
    Code.wp Tryz.prog c Q a ((w.alloc (.cells Z 99)).setRow w.heap.size (cells28 f)) := by
  subst hZ
  exact h _ (setRow_heap _ _ _ _ _ _ (last_box w _)) (below_setRow ((Below.refl _ w).alloc (Nat.le_refl _) _) (Nat.le_refl _) _)
set_option maxHeartbeats 8000000 in
set_option maxRecDepth 100000 in
theorem look_any (l : List Op3) (nv : Value) (w : World) (hN : IsNames w nv (namesTo l l.length)) (hl : l.length ≤ 40) (hop : ∀ o ∈ l, isOpB o = true) :
    Calls Tryz.prog 42 #[nv] w fun e w' => ∃ M D, e = .returned (.agg (cells29 M (lastF l l.length))) ∧ w.heap.size ≤ M ∧ Looked w' M l l.length D ∧ Below w.heap.size w w' := by
  have HN : Hid (∀ W, Below w.heap.size w W → IsNames W nv (namesTo l l.length)) := fun W hW => by
    obtain ⟨ad, b, off, cap, hv, ha, hb, hat⟩ := hN
    refine ⟨ad, b, off, cap, hv, ha, ?_, hat.below hW hb⟩
    rcases hb with h | h
    · exact .inl (Nat.lt_of_lt_of_le h hW.size)
    · exact .inr h
  have HOP : Hid (∀ o ∈ l, isOpB o = true) := hop
  have hmm := nm_made
  obtain ⟨ad, b, off, cap, hv, -, -, -⟩ := hN
  rw [namesTo_len] at hv
  subst hv
  clear hop
  go_enter Tryz.func42, Tryz.ntmps42
  go_wp2_with fail
  refine look_split w _ rfl ?_
  intro W0 hB0
  have HB0 : Hid (Begins w W0) := hB0
  clear hB0
  refine (follow_any l _ _ 85 (w.heap.size + 1) #[] 0 W0 (fun k W => ∃ D, Looked W (w.heap.size + 1) l k D) (fun _ => true) look1_call (HN.out _ HB0.out.below) hl HOP.out HB0.out.map ⟨_, HB0.out.own, froms_start l, rfl⟩ ?_ ?_).mono ?_
  · rintro k W W' ⟨D, h⟩ hb
    exact ⟨D, h.same hb⟩
  · rintro k hk W ⟨D, h⟩ hsv
    have hcl := World.block_lt_of_cell? W0 _ HB0.out.cell
    refine (look1_any l k (w.heap.size + 1) (w.heap.size + 1 + 1) D W hl HOP.out hk h ((World.cell?_of_block (a := ⟨w.heap.size + 1 + 1, 0, none⟩) (hsv.block _ hcl (by simp))).trans HB0.out.cell)).mono ?_
    rintro e W' ⟨he, h1, h2⟩
    exact ⟨he, by simpa using h1, h2⟩
  rintro e w1 ⟨k, hk, -, hno, rfl, ⟨D, hD⟩, hsv⟩
  obtain rfl : k = l.length := by
    rcases Nat.lt_or_ge k l.length with h | h
    · exact absurd (hno h) (by simp)
    · omega
  have hcl := World.block_lt_of_cell? W0 _ HB0.out.cell
  simp only at hcl
  have HO1 : Hid (w1.heap[w.heap.size]? = some (.cells zero29 101 (0, 0))) := (hsv.block _ (by omega) (by omega)).trans HB0.out.out
  have HC1 : w1.cell? ⟨w.heap.size + 1 + 1, 0, none⟩ = some (.map (some (w.heap.size + 1))) := (World.cell?_of_block (a := ⟨w.heap.size + 1 + 1, 0, none⟩) (hsv.block _ hcl (by simp))).trans HB0.out.cell
  have HD : Hid (Looked w1 (w.heap.size + 1) l l.length D) := hD
  have HB1 : Hid (Below w.heap.size w w1) := HB0.out.below.trans ⟨hsv.os, hsv.tape, hsv.output, hsv.size, fun k h1 => hsv.block k (by omega) (by omega)⟩
  have hs1 := HB1.out.size
  have hl2 : w.heap.size + 1 + 1 < w1.heap.size := World.block_lt_of_cell? w1 _ HC1
  have HF1 : Hid (LastAt (w1.alloc (.cells (cells28 fun _ => zN) 99)) w1.heap.size (fun _ => zN)) := last_box _ _
  clear hno hsv hcl hD hk HB0
  go_upto_region 3 with (first | refine wpList_store_row rfl 99 (.tmp 4) (.tmp 13) rfl w1.heap.size (cells28 (lastF l l.length)) rfl rfl 99 (cells28 fun _ => zN) HF1.out (last_info' _) (by rw [cells28_size, cells28_size]) (cells28_one _) ?_ | fail)
  refine last_split w1 _ _ rfl ?_
  intro W hLW hBW
  have HLW : Hid (LastAt W w1.heap.size (lastF l l.length)) := hLW
  have HOW : Hid (W.heap[w.heap.size]? = some (.cells zero29 101 (0, 0))) := (hBW.block _ (by omega)).trans HO1.out
  have HCW : W.cell? ⟨w.heap.size + 1 + 1, 0, none⟩ = some (.map (some (w.heap.size + 1))) := (hBW.cell (p := ⟨w.heap.size + 1 + 1, 0, none⟩) hl2).trans HC1
  have HDW : Hid (Looked W (w.heap.size + 1) l l.length D) := HD.out.same (hBW.block _ (by omega))
  have HBW : Hid (Below w.heap.size w W) := HB1.out.trans (hBW.mono hs1)
  clear hLW hBW HC1 HO1 HD HB1 HF1
  go_wp2_with (first | refine wpList_load_row rfl 99 (.tmp 4) rfl w1.heap.size rfl 99 (cells28 (lastF l l.length)) (0, 0) _ HLW.out Tryz.underlying99 rfl (last_info' _) ?_ | refine wpList_built rfl 101 (.tmp 15) (.tmp 16) rfl (.map (some (w.heap.size + 1))) (.agg (cells28 (lastF l l.length))) rfl rfl (cells29 (w.heap.size + 1) (lastF l l.length)) (sight_built _ _) ?_ | refine wpList_store_row rfl 101 (.tmp 2) (.tmp 17) rfl w.heap.size (cells29 (w.heap.size + 1) (lastF l l.length)) rfl rfl 101 zero29 HOW.out (sight_info' _ _) (by rw [cells29_size, zero29_size]) (cells29_one _ _) ?_)
  exact bodyPost_ret (v := .agg (cells29 (w.heap.size + 1) (lastF l l.length))) (results_cell_row Tryz.results42 _ _ w.heap.size 101 (cells29 (w.heap.size + 1) (lastF l l.length)) (0, 0) _ rfl (setRow_heap _ _ _ _ _ _ HOW.out) Tryz.underlying101 rfl (sight_info' _ _)) rfl ⟨w.heap.size + 1, D, rfl, by omega, HDW.out.same (row_other (by omega)), below_setRow HBW.out (Nat.le_refl _) _⟩
end Go.Proofs.YtccjognnehoodahGreat

namespace Go.Proofs.YtccjognnehoodahGreat
open Go.RowKit Go.Maps

theorem seen_at {h g : List Op3} {i k : Nat} (hi : i < h.length) (hn : nameAt h i = nameAt g k) : seenB h g k = (srcN h i == srcN g k) := by
  rw [Bool.eq_iff_iff, seenB_iff, beq_iff_eq]
  constructor
  · rintro ⟨j, j1, j2, j3⟩
    rw [name_inj hi j1 (hn.trans j2.symm)]; exact j3
  · intro e
    exact ⟨i, hi, hn, e⟩
theorem seen_no {h g : List Op3} {k : Nat} (hn : ∀ i, i < h.length → nameAt h i ≠ nameAt g k) : seenB h g k = false := by
  cases hb : seenB h g k with
  | false => rfl
  | true =>
    obtain ⟨i, i1, i2, _⟩ := seenB_iff.1 hb
    exact absurd i2 (hn i i1)
theorem nm_zero (w : World) : (zeroValue 97).run Tryz.prog w = .ok (nmV zN) w := by kernel_rfl
theorem wpList_lookup_nm {ops : Array Oper} {rest : List Oper} {o : Oper} {a : Act} {w : World} {Q : Exit → Act → World → Prop} (hg : o.guard = none) (m x : Operand) (hop : o.op = Op.lookup 95 m x true)
    (b n : Nat) (D : DataW Unit) (hm : a.eval m = .map (some b)) (hown : w.ownsMap Tryz.prog 97 nmElem b n D) (key : Value) (kl : Lit) (hx : a.eval x = key) (hkey : keyOf Tryz.prog 97 key = some kl)
    (s : Nm) (hs : D.atKey kl (nmD zN) = nmD s) (q : Bool) (hq : Maps.has D kl = q) (hK : wpList Tryz.prog ops Q rest (a.put o.dst (.tuple #[nmV s, .bool q])) w) : wpList Tryz.prog ops Q (o :: rest) a w :=
  wpList_lookup_own_ok w hg m x _ hop 97 97 fLaw Tryz.underlying95 nmElem (nm_zero w) (nmD zN) [] (nmElem_mk zN) b n D hm hown key kl hx hkey (fun v ps hv => by
    rw [hs] at hv
    rw [nmElem_inv hv, hq]
    exact hK)

theorem IsNames.below {w w1 : World} {B : Nat} {v : Value} {l : List Nm} (h : IsNames w v l) (hb : Below B w w1) (hB : w.heap.size ≤ B) : IsNames w1 v l := by
  obtain ⟨ad, b, off, cap, hv, ha, hbB, hat⟩ := h
  have hs := hb.size
  refine ⟨ad, b, off, cap, hv, ha, ?_, hat.below hb ?_⟩
  · rcases hbB with h | h
    · exact .inl (by omega)
    · exact .inr h
  · rcases hbB with h | h
    · exact .inl (by omega)
    · exact .inr h
theorem sight_no {h g : List Op3} {k : Nat} (hk : k < g.length) (hn : seenB h g k = false) : sightB h g = false := by
  cases hb : sightB h g with
  | false => rfl
  | true => rw [(sightB_iff.1 hb).2.1 k hk] at hn; cases hn
theorem sight_len {h g : List Op3} (hn : g.length ≠ h.length) : sightB h g = false := by
  cases hb : sightB h g with
  | false => rfl
  | true => exact absurd (sightB_iff.1 hb).1 hn
theorem sight_left {h g : List Op3} (hl : g.length = h.length) (hs : ∀ k, k < g.length → seenB h g k = true) : sightB h g = leftB h g := by
  rw [Bool.eq_iff_iff, sightB_iff]
  exact ⟨fun h => h.2.2, fun h => ⟨hl, hs, h⟩⟩
theorem left_iff {h g : List Op3} : leftB h g = true ↔ ∀ x, x < 7 → lastF h h.length x = lastF g g.length x := leftB_iff

theorem wpList_load_row' {P : Program} {ops : Array Oper} {rest : List Oper} {o : Oper} {a : Act} {w : World} {Q : Exit → Act → World → Prop} (hw : Region.wanted o (yielded ops a.tmps) = true) (ty : TypeId) (x : Operand) (ho : o.op = .load ty x)
    (g : Nat) (hx : a.eval x = .pointer (some ⟨g, 0, none⟩)) (t : TypeId) (cs : Array Value) (fr : Nat × Nat) (d : TypeDesc) (hg : w.heap[g]? = some (.cells cs t fr))
    (hu : P.underlying ty = some d) (hd : (match d with | .struct _ | .array _ _ => true | _ => false) = true) (hi : (P.info? ty).map (·.size) = some cs.size)
    (h : wpList P ops Q rest (a.put o.dst (.agg cs)) w) : wpList P ops Q (o :: rest) a w :=
  Go.BigFrame.wpList_want hw fun _ hK => wp_load_row ty x ho g hx t cs fr d hg hu hd hi (hK _ _ h)
theorem wpList_load_mid' {P : Program} {ops : Array Oper} {rest : List Oper} {op : Oper} {a : Act} {w : World} {Q : Exit → Act → World → Prop} (hw : Region.wanted op (yielded ops a.tmps) = true) (ty : TypeId) (x : Operand) (ho : op.op = .load ty x)
    (b o : Nat) (hx : a.eval x = .pointer (some ⟨b, o, none⟩)) (cs : List Value) (d : TypeDesc) (hc : w.rangeAt b o cs)
    (hu : P.underlying ty = some d) (hd : d.isRow = true) (hi : (P.info? ty).map (·.size) = some cs.length)
    (h : wpList P ops Q rest (a.put op.dst (.agg cs.toArray)) w) : wpList P ops Q (op :: rest) a w :=
  Go.BigFrame.wpList_want hw fun _ hK => wp_load_mid ty x ho b o hx cs d hc hu hd hi (hK _ _ h)
theorem small_lastF {l : List Op3} {k : Nat} (hl : l.length ≤ 40) (hop : ∀ o ∈ l, isOpB o = true) (hk : k ≤ l.length) : ∀ x, x < 7 → Small (lastF l k x) := fun _ _ => small_last hl hop hk _

end Go.Proofs.YtccjognnehoodahGreat

namespace Go.Proofs.YtccjognnehoodahGreat
open Go.RowKit Go.Maps

theorem nms_bad (l : List Op3) (v : Value) (w : World) (h : IsOps w v l) (hc : (chk l).2 ≠ 0) :
    Calls Tryz.prog 83 #[v] w fun e w' => e = .returned (.tuple #[.slice none 0 0, .iface 61 (.int .i64 (chk l).2)]) ∧ Below w.heap.size w w' := by
  go_enter Tryz.func83, Tryz.ntmps83
  go_wp2_with (go_at_call 18; refine (check_bad l _ _ h hc).mono ?_; rintro e w1 ⟨rfl, hb1⟩)
  go_ret2
  exact ⟨rfl, hb1⟩
theorem nms_ok (l : List Op3) (v : Value) (w : World) (h : IsOps w v l) (hc : (chk l).2 = 0) :
    Calls Tryz.prog 83 #[v] w fun e w' => ∃ v', e = .returned (.tuple #[v', .nilIface]) ∧ IsNames w' v' (namesTo l l.length) ∧ Below w.heap.size w w' := by
  have hl := chk_len hc
  have HT : Hid (∀ o ∈ l, 1 ≤ o.1 ∧ o.1 ≤ 6) := fun o ho => isOp_tx (chk_ops hc o ho)
  go_enter Tryz.func83, Tryz.ntmps83
  go_wp2_with fail
  refine (check_ok l _ _ h hc).mono ?_
  rintro e w1 ⟨rfl, hb1⟩
  have hI1 := h.below hb1 (Nat.le_refl _)
  clear hc h
  go_wp2_with fail
  refine (onames_any l _ _ hI1 hl HT.out).mono ?_
  rintro e w2 ⟨v2, rfl, hN2, hb2⟩
  have HN2 : Hid (IsNames w2 v2 (namesTo l l.length)) := hN2
  have hb02 := hb1.trans (hb2.mono hb1.size)
  clear hN2 hb1 hb2 hI1
  go_wp2_with fail
  go_ret2
  exact ⟨_, rfl, HN2.out, hb02⟩
theorem isNames_len {w : World} {v : Value} {d : List Op3} (h : IsNames w v (namesTo d d.length)) : ∃ ad cap, v = .slice ad d.length cap := by
  obtain ⟨ad, b, off, cap, hv, -⟩ := h
  rw [namesTo_len] at hv
  exact ⟨ad, cap, hv⟩
theorem sight_split {c : Code} {Q : Exit → Act → World → Prop} {a : Act} (w : World) (Z : Array Value) (M : Nat) (f : Nat → Nm) (hZ : zero29 = Z) (h : ∀ W, SightAt W w.heap.size M f → Below w.heap.size w W → Code.wp Tryz.prog c Q a W) :
    Code.wp Tryz.prog c Q a ((w.alloc (.cells Z 101)).setRow w.heap.size (cells29 M f)) := by
  subst hZ
  exact h _ (setRow_heap _ _ _ _ _ _ (heap_alloc_new _ _)) (below_setRow ((Below.refl _ w).alloc (Nat.le_refl _) _) (Nat.le_refl _) _)
end Go.Proofs.YtccjognnehoodahGreat

namespace Go.Proofs.YtccjognnehoodahGreat
open Go.RowKit Go.Maps

theorem dnames_bad (l : List Op3) (v : Value) (w : World) (h : IsOps w v l) (hc : (chk l).2 ≠ 0) :
    Calls Tryz.prog 41 #[v] w fun e w' => e = .returned (.tuple #[.slice none 0 0, .iface 61 (.int .i64 (chk l).2)]) ∧ Below w.heap.size w w' := by
  go_enter Tryz.func41, Tryz.ntmps41
  go_wp2_with (go_at_call 5; refine (done_bad l _ _ h hc).mono ?_; rintro e w1 ⟨rfl, hb1⟩)
  go_ret2
  exact ⟨rfl, hb1⟩
theorem dnames_ok (l : List Op3) (v : Value) (w : World) (h : IsOps w v l) (hc : (chk l).2 = 0) :
    Calls Tryz.prog 41 #[v] w fun e w' => ∃ v', e = .returned (.tuple #[v', .nilIface]) ∧ IsNames w' v' (namesTo (doneL l) (doneL l).length) ∧ Below w.heap.size w w' := by
  have HD : Hid ((chk (doneL l)).2 = 0) := chk_done hc
  go_enter Tryz.func41, Tryz.ntmps41
  go_wp2_with fail
  refine (done_ok l _ _ h hc).mono ?_
  rintro e w1 ⟨v1, rfl, hI1, hb1⟩
  have HI1 : Hid (IsOps w1 v1 (doneL l)) := hI1
  clear hI1 h hc
  go_wp2_with fail
  refine (nms_ok (doneL l) _ _ HI1.out HD.out).mono ?_
  rintro e w2 ⟨v2, rfl, hN2, hb2⟩
  have HN2 : Hid (IsNames w2 v2 (namesTo (doneL l) (doneL l).length)) := hN2
  have hb02 := hb1.trans (hb2.mono hb1.size)
  clear hN2 hb1 hb2
  go_wp2_with fail
  go_ret2
  exact ⟨_, rfl, HN2.out, hb02⟩
end Go.Proofs.YtccjognnehoodahGreat
