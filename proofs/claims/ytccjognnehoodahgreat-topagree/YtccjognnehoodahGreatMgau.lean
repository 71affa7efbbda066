/-
  PROVED HERE: a name (an op, and which of its deal's ops it is) as a map's key; names beside a map in memory.
  Conditions: none.
  PROVED HERE: seven names in a block of memory (of each item the Write that was last), what becomes of them when one is set, and as a value that is compared; what ops see and leave (a map and seven names) as a value and in memory.
  Conditions: none.
  PROVED HERE: two names, and seven names and seven names, are compared as Go compares them; a law for that operation.
  Conditions: none.
  PROVED HERE: view.follow goes over names as long as what is told is taken: of each op the Write that it reads; it gives what was written last by then, and whether all was taken. Of the old memory one block alone may turn: that which the closure turns.
  Conditions: what the closure does is a premise.
-/
import Derived.Test.YtccjognnehoodahGreatMgat
import Derived.Test.YtccjognnehoodahGreatMgac
import Derived.Maps.OwnSet
import Derived.Maps.OwnOps
import Derived.Maps.AppendAt
import Derived.DeepKeys4
import Derived.Test.YtccjognnehoodahGreatMgak
import Derived.Laws.Rows
import Derived.Laws.CopyOwn
import Derived.Deep.MidRow
import Derived.BigFrame
import Derived.Deep.Cut
namespace Go.Proofs.YtccjognnehoodahGreat
open Go.RowKit Go.Maps

/-- A name as a map's key. -/
def nmV (n : Nm) : Value := .agg #[.int .i64 n.1.1, .int .i64 n.1.2.1, .int .i64 n.1.2.2, .int .i64 n.2]
def nmL (n : Nm) : Lit := .string (keyBytes [.int .i64 n.1.1, .int .i64 n.1.2.1, .int .i64 n.1.2.2, .int .i64 n.2])
theorem fSize : Tryz.prog.types.size = 232 := by kernel_rfl
theorem fLaid : laidOutB Tryz.prog = true := by kernel_rfl
theorem fRow : 97 < Tryz.prog.types.size := of_decide_eq_true (by kernel_rfl)
theorem fWide : (match Tryz.prog.underlying 97 with | some (.array _ _) | some (.struct _) => true | _ => false) = true := by kernel_rfl
set_option maxRecDepth 100000 in
theorem fLaw : Keyed Tryz.prog 97 := Keyed.of_law (deep_law_laid fLaid (m := 3) (by omega) fRow (by kernel_rfl) fWide)
theorem fKey : Tryz.prog.keyType 97 = true := by kernel_rfl
theorem fCells : Tryz.prog.cellsOf 97 = 4 := by kernel_rfl
theorem fCellsOp : Tryz.prog.cellsOf 51 = 3 := by kernel_rfl
theorem fCellsInt : Tryz.prog.cellsOf 3 = 1 := by kernel_rfl
def Small (n : Nm) : Prop := (Lit.int .i64 n.1.1).wf = true ∧ (Lit.int .i64 n.1.2.1).wf = true ∧ (Lit.int .i64 n.1.2.2).wf = true ∧ (Lit.int .i64 n.2).wf = true
theorem nm_lits (d : Nat) (n : Nm) (h : Small n) : Tryz.prog.keyLits (d + 3) 97 (nmV n).cells.toList = some [.int .i64 n.1.1, .int .i64 n.1.2.1, .int .i64 n.1.2.2, .int .i64 n.2] := by
  obtain ⟨h0, h1, h2, h3⟩ := h
  simp [Program.keyLits, nmV, Value.cells, h0, h1, h2, h3, fCells, fCellsOp, fCellsInt, Tryz.underlying97, Tryz.underlying51, Tryz.underlying3]
  rw [if_pos]
  · rfl
  · intro i hi
    rcases (show i = 0 ∨ i = 1 ∨ i = 2 by omega) with rfl | rfl | rfl <;> simp
theorem nm_key (n : Nm) (h : Small n) : keyOf Tryz.prog 97 (nmV n) = some (nmL n) := by
  obtain ⟨d, hd⟩ : ∃ d, Tryz.prog.types.size + 1 = d + 3 := ⟨232 - 2, by rw [fSize]⟩
  have hl := nm_lits d n h
  unfold keyOf
  rw [Tryz.underlying97, hd]
  simp only [hl, fKey, Value.formed, Tryz.underlying97]
  simp [nmV, fCells, nmL]
theorem nm_inj {a b : Nm} (ha : Small a) (hb : Small b) (h : nmL a = nmL b) : a = b := by
  have h1 := fLaw.inj (nm_key a ha) (h ▸ nm_key b hb)
  obtain ⟨⟨a1, a2, a3⟩, a4⟩ := a
  obtain ⟨⟨b1, b2, b3⟩, b4⟩ := b
  simp [nmV] at h1
  obtain ⟨rfl, rfl, rfl, h4⟩ := h1
  have : a4 = b4 := by omega
  rw [this]
theorem wf_small {n : Int} (h0 : 0 ≤ n) (h1 : n ≤ 100) : (Lit.int .i64 n).wf = true := WalkArith.wf_i64 (by omega)
theorem small_name {l : List Op3} {i : Nat} (hl : l.length ≤ 40) (hop : ∀ o ∈ l, isOpB o = true) (hi : i < l.length) : Small (nameAt l i) := by
  have ho := hop _ (opAt_mem hi)
  have hn : nthAt l i ≤ 40 := by
    have h1 := List.length_filter_le (fun o : Op3 => o.1 == (opAt l i).1) (l.take i)
    have h2 : (l.take i).length ≤ i := List.length_take_le _ _
    unfold nthAt ofL; omega
  obtain ⟨⟨t, a, x⟩, hx⟩ : ∃ o, opAt l i = o := ⟨_, rfl⟩
  unfold nameAt Small
  rw [hx] at ho ⊢
  simp [isOpB] at ho
  obtain ⟨⟨⟨⟨h1, h2⟩, h3⟩, h4⟩, h5⟩ := ho
  have hxb : 0 ≤ x ∧ x ≤ 6 := by
    by_cases he : endsB a = true
    · simp [he] at h5; omega
    · simp [he] at h5; omega
  exact ⟨wf_small (by show (0 : Int) ≤ t; omega) (by show t ≤ 100; omega), wf_small (by show (0 : Int) ≤ a; omega) (by show a ≤ 100; omega), wf_small (by show (0 : Int) ≤ x; omega) (by show x ≤ 100; omega), wf_small (by simp) (by simp; omega)⟩
theorem spot_eq {h g : List Op3} {i j : Nat} (hj : j < g.length) (he : nameAt g j = nameAt h i) : spot h g i = j := by
  unfold spot; rw [place_name hj he]; rfl
/-- Names in a world that has grown beside a map. -/
theorem names_cells {w : World} {v : Value} {l : List Nm} {M : Nat} {es : Array MapEntry} {clock n : Nat} (hI : IsNames w v l) (hm : w.heap[M]? = some (.map es clock)) (hn : l.length = n) :
    ∃ (ad : Option Addr) (b off cap : Nat), v = .slice ad n cap ∧ ∀ W, w.grownBy W (some M) → ∀ k, k < n → ad = some ⟨b, off, none⟩ ∧ W.cell? ⟨b, off + k * 4, none⟩ = some (.int .i64 (nmAt l k).1.1) ∧ W.cell? ⟨b, off + k * 4 + 1, none⟩ = some (.int .i64 (nmAt l k).1.2.1) ∧ W.cell? ⟨b, off + k * 4 + 2, none⟩ = some (.int .i64 (nmAt l k).1.2.2) ∧ W.cell? ⟨b, off + k * 4 + 3, none⟩ = some (.int .i64 (nmAt l k).2) := by
  subst hn
  obtain ⟨ad, b, off, cap, hv, ha, _, hat⟩ := hI
  refine ⟨ad, b, off, cap, hv, fun W hW k hk => ?_⟩
  obtain ⟨c0, c1, c2, c3⟩ := hat k hk
  have hne : some b ≠ some M := by
    intro he
    have he := Option.some.inj he
    subst he
    simp [World.cell?, hm] at c0
  exact ⟨ha (by omega), hW.cell c0 hne, hW.cell c1 hne, hW.cell c2 hne, hW.cell c3 hne⟩
theorem map_block {P : Program} {k : TypeId} {R : Value → Option (DataW Unit × List MemPlace)} {w : World} {b n : Nat} {D : DataW Unit} (h : w.ownsMap P k R b n D) : ∃ es clock, w.heap[b]? = some (.map es clock) :=
  let ⟨es, clock, hb, _⟩ := h
  ⟨es, clock, hb⟩
theorem grown_of_below {w W : World} {row : Option Nat} (h : Below w.heap.size w W) : w.grownBy W row := ⟨h.os, h.tape, h.output, h.size, fun k hk _ => h.block k hk⟩
end Go.Proofs.YtccjognnehoodahGreat

namespace Go.Proofs.YtccjognnehoodahGreat
open Go.RowKit Go.Maps

/-- A number of a name. -/
def partN (n : Nm) (j : Nat) : Value := match j with | 0 => .int .i64 n.1.1 | 1 => .int .i64 n.1.2.1 | 2 => .int .i64 n.1.2.2 | _ => .int .i64 n.2
def cells28 (f : Nat → Nm) : Array Value := ((List.range 28).map fun k => partN (f (k / 4)) (k % 4)).toArray
theorem cells28_size (f : Nat → Nm) : (cells28 f).size = 28 := by simp [cells28]
theorem cells28_at (f : Nat → Nm) (k : Nat) (h : k < 28) : (cells28 f)[k]? = some (partN (f (k / 4)) (k % 4)) := by simp [cells28, h]
theorem partN_one (n : Nm) (j : Nat) : (partN n j).oneCell' = true := by unfold partN; split <;> rfl
theorem cells28_one (f : Nat → Nm) : (cells28 f).all (·.oneCell') = true := by
  rw [Array.all_eq_true_iff_forall_mem]
  intro v hv
  simp only [cells28, List.mem_toArray, List.mem_map] at hv
  obtain ⟨k, _, rfl⟩ := hv
  exact partN_one _ _
theorem cells28_congr {f g : Nat → Nm} (h : ∀ x, x < 7 → f x = g x) : cells28 f = cells28 g := by
  unfold cells28
  congr 1
  refine List.map_congr_left fun k hk => ?_
  rw [h (k / 4) (by have := List.mem_range.1 hk; omega)]
theorem partN_inj {a b : Nm} (h0 : partN a 0 = partN b 0) (h1 : partN a 1 = partN b 1) (h2 : partN a 2 = partN b 2) (h3 : partN a 3 = partN b 3) : a = b := by
  obtain ⟨⟨a1, a2, a3⟩, a4⟩ := a
  obtain ⟨⟨b1, b2, b3⟩, b4⟩ := b
  simp [partN] at h0 h1 h2 h3
  obtain rfl := h0
  obtain rfl := h1
  obtain rfl := h2
  have : a4 = b4 := by omega
  rw [this]
theorem cells28_inj {f g : Nat → Nm} (h : cells28 f = cells28 g) {x : Nat} (hx : x < 7) : f x = g x := by
  have e : ∀ j, j < 4 → partN (f x) j = partN (g x) j := fun j hj => by
    have h1 := cells28_at f (x * 4 + j) (by omega)
    rw [h, cells28_at g (x * 4 + j) (by omega), show (x * 4 + j) / 4 = x by omega, show (x * 4 + j) % 4 = j by omega] at h1
    exact (Option.some.inj h1).symm
  exact partN_inj (e 0 (by omega)) (e 1 (by omega)) (e 2 (by omega)) (e 3 (by omega))
def setW (f : Nat → Nm) (x : Nat) (n : Nm) : Nat → Nm := fun i => if i = x then n else f i
/-- Seven names in a block. -/
def LastAt (w : World) (b : Nat) (f : Nat → Nm) : Prop := w.heap[b]? = some (.cells (cells28 f) 99 (0, 0))
theorem LastAt.lt {w : World} {b : Nat} {f : Nat → Nm} (h : LastAt w b f) : b < w.heap.size := by
  have h' : w.heap[b]? = some _ := h
  exact (Array.getElem?_eq_some_iff.1 h').1
theorem LastAt.cell {w : World} {b : Nat} {f : Nat → Nm} (h : LastAt w b f) {x j : Nat} (hx : x < 7) (hj : j < 4) : w.cell? ⟨b, x * 4 + j, none⟩ = some (partN (f x) j) := by
  rw [cell_of_row w b _ _ _ _ h, cells28_at f _ (by omega), show (x * 4 + j) / 4 = x by omega, show (x * 4 + j) % 4 = j by omega]
theorem LastAt.cells {w : World} {b : Nat} {f : Nat → Nm} (h : LastAt w b f) {x : Nat} (hx : x < 7) {t a i : Int} {m : Nat} (he : f x = ((t, a, i), m)) : w.cell? ⟨b, x * 4, none⟩ = some (.int .i64 t) ∧ w.cell? ⟨b, x * 4 + 1, none⟩ = some (.int .i64 a) ∧ w.cell? ⟨b, x * 4 + 2, none⟩ = some (.int .i64 i) ∧ w.cell? ⟨b, x * 4 + 3, none⟩ = some (.int .i64 m) := by
  have h0 := h.cell hx (j := 0) (by omega)
  have h1 := h.cell hx (j := 1) (by omega)
  have h2 := h.cell hx (j := 2) (by omega)
  have h3 := h.cell hx (j := 3) (by omega)
  rw [he] at h0 h1 h2 h3
  exact ⟨h0, h1, h2, h3⟩
theorem LastAt.thaw {w : World} {b : Nat} {f : Nat → Nm} (h : LastAt w b f) (k : Nat) : w.frozen? ⟨b, k, none⟩ = false := by
  have h' : w.heap[b]? = some _ := h
  simp [World.frozen?, h']
theorem LastAt.same {w w' : World} {b : Nat} {f : Nat → Nm} (h : LastAt w b f) (hb : w'.heap[b]? = w.heap[b]?) : LastAt w' b f := hb.trans h
theorem LastAt.below {w w1 : World} {b B : Nat} {f : Nat → Nm} (h : LastAt w b f) (hb : Below B w w1) (hB : b < B) : LastAt w1 b f := (hb.block b hB).trans h
theorem LastAt.alloc {w : World} {b : Nat} {f : Nat → Nm} (h : LastAt w b f) (o : Obj) : LastAt (w.alloc o) b f := (Below.heap_alloc w o b h.lt).trans h
theorem LastAt.far {w : World} {b : Nat} {f : Nat → Nm} (h : LastAt w b f) {p : Addr} (v : Value) (hp : b ≠ p.block) : LastAt (w.setCell p v) b f := (Below.heap_setCell w p v b hp).trans h
theorem cells28_set (f : Nat → Nm) (x : Nat) (n : Nm) : (((cells28 f |>.setIfInBounds (x * 4) (partN n 0)).setIfInBounds (x * 4 + 1) (partN n 1)).setIfInBounds (x * 4 + 2) (partN n 2)).setIfInBounds (x * 4 + 3) (partN n 3) = cells28 (setW f x n) := by
  refine Array.ext_getElem? fun j => ?_
  by_cases hj : j < 28
  · rw [cells28_at _ j hj]
    simp only [Array.getElem?_setIfInBounds, Array.size_setIfInBounds, cells28_size]
    rw [cells28_at _ j hj]
    unfold setW
    by_cases e : j / 4 = x
    · rw [if_pos e]
      rcases (show j = x * 4 ∨ j = x * 4 + 1 ∨ j = x * 4 + 2 ∨ j = x * 4 + 3 by omega) with h | h | h | h
      · rw [if_neg (by omega), if_neg (by omega), if_neg (by omega), if_pos h.symm, if_pos (by omega), show j % 4 = 0 by omega]
      · rw [if_neg (by omega), if_neg (by omega), if_pos h.symm, if_pos (by omega), show j % 4 = 1 by omega]
      · rw [if_neg (by omega), if_pos h.symm, if_pos (by omega), show j % 4 = 2 by omega]
      · rw [if_pos h.symm, if_pos (by omega), show j % 4 = 3 by omega]
    · rw [if_neg e, if_neg (by omega), if_neg (by omega), if_neg (by omega), if_neg (by omega)]
  · rw [Array.getElem?_eq_none (by simp [cells28_size]; omega), Array.getElem?_eq_none (by simp [cells28_size]; omega)]
theorem LastAt.set {w : World} {b : Nat} {f : Nat → Nm} (h : LastAt w b f) (x : Nat) (n : Nm) : LastAt ((((w.setCell ⟨b, x * 4, none⟩ (partN n 0)).setCell ⟨b, x * 4 + 1, none⟩ (partN n 1)).setCell ⟨b, x * 4 + 2, none⟩ (partN n 2)).setCell ⟨b, x * 4 + 3, none⟩ (partN n 3)) b (setW f x n) := by
  have h' : w.heap[b]? = some (.cells (cells28 f) 99 (0, 0)) := h
  unfold LastAt World.setCell
  simp [Array.getElem?_modify, h', cells28_set f x n]
theorem last_box (w : World) (f : Nat → Nm) : LastAt (w.alloc (.cells (cells28 f) 99)) w.heap.size f := by
  unfold LastAt World.alloc
  simp
theorem last_fresh (w : World) (c : Array Value) (h : cells28 (fun _ => zN) = c) : LastAt (w.alloc (.cells c 99)) w.heap.size (fun _ => zN) := h ▸ last_box w _
theorem last_info : (Tryz.prog.info? 99).map (·.size) = some 28 := by kernel_rfl
theorem last_info' (f : Nat → Nm) : (Tryz.prog.info? 99).map (·.size) = some (cells28 f).size := by rw [cells28_size]; exact last_info
/-- What ops see and what they leave, as a value. -/
def cells29 (M : Nat) (f : Nat → Nm) : Array Value := (Value.map (some M) :: (cells28 f).toList).toArray
theorem cells29_size (M : Nat) (f : Nat → Nm) : (cells29 M f).size = 29 := by simp [cells29, cells28_size]
theorem cells29_one (M : Nat) (f : Nat → Nm) : (cells29 M f).all (·.oneCell') = true := by
  rw [Array.all_eq_true_iff_forall_mem]
  intro v hv
  simp only [cells29, List.mem_toArray, List.mem_cons, Array.mem_toList_iff] at hv
  rcases hv with rfl | hv
  · rfl
  · exact (Array.all_eq_true_iff_forall_mem.1 (cells28_one f)) v hv
theorem sight_info : (Tryz.prog.info? 101).map (·.size) = some 29 := by kernel_rfl
theorem sight_info' (M : Nat) (f : Nat → Nm) : (Tryz.prog.info? 101).map (·.size) = some (cells29 M f).size := by rw [cells29_size]; exact sight_info
def SightAt (w : World) (b M : Nat) (f : Nat → Nm) : Prop := w.heap[b]? = some (.cells (cells29 M f) 101 (0, 0))
theorem SightAt.lt {w : World} {b M : Nat} {f : Nat → Nm} (h : SightAt w b M f) : b < w.heap.size := by
  have h' : w.heap[b]? = some _ := h
  exact (Array.getElem?_eq_some_iff.1 h').1
theorem SightAt.map {w : World} {b M : Nat} {f : Nat → Nm} (h : SightAt w b M f) : w.cell? ⟨b, 0, none⟩ = some (.map (some M)) := by
  rw [cell_of_row w b _ _ _ _ h]; rfl
theorem SightAt.cell {w : World} {b M : Nat} {f : Nat → Nm} (h : SightAt w b M f) {k : Nat} (hk : k < 28) : w.cell? ⟨b, 1 + k, none⟩ = some (partN (f (k / 4)) (k % 4)) := by
  rw [cell_of_row w b _ _ _ _ h, Nat.add_comm 1 k]
  have := cells28_at f k hk
  simpa [cells29] using this
theorem SightAt.range {w : World} {b M : Nat} {f : Nat → Nm} (h : SightAt w b M f) : w.rangeAt b 1 (cells28 f).toList := fun j v hv => by
  have hj : j < 28 := by
    have := (List.getElem?_eq_some_iff.1 hv).1
    simpa [cells28_size] using this
  rw [h.cell hj]
  have h1 := cells28_at f j hj
  rw [← Array.getElem?_toList, hv] at h1
  exact h1.symm
theorem SightAt.below {w w1 : World} {b B M : Nat} {f : Nat → Nm} (h : SightAt w b M f) (hb : Below B w w1) (hB : b < B) : SightAt w1 b M f := (hb.block b hB).trans h
theorem SightAt.same {w w' : World} {b M : Nat} {f : Nat → Nm} (h : SightAt w b M f) (hb : w'.heap[b]? = w.heap[b]?) : SightAt w' b M f := hb.trans h
theorem sight_box (w : World) (M : Nat) (f : Nat → Nm) : SightAt (w.alloc (.cells (cells29 M f) 101)) w.heap.size M f := by
  unfold SightAt World.alloc
  simp
theorem sight_built (M : Nat) (f : Nat → Nm) : Tryz.prog.built 101 [(0, .map (some M)), (1, .agg (cells28 f))] = some (cells29 M f) := by kernel_rfl
end Go.Proofs.YtccjognnehoodahGreat

namespace Go.Proofs.YtccjognnehoodahGreat
open Go.RowKit Go.Maps

theorem mapM_all {α β : Type} {F : α → Option β} {G : α → β} : ∀ {l : List α}, (∀ i ∈ l, F i = some (G i)) → l.mapM F = some (l.map G) := by
  intro l
  induction l with
  | nil => intro _; rfl
  | cons a l ih =>
    intro h
    rw [List.mapM_cons, h a (List.mem_cons_self ..), ih fun i hi => h i (List.mem_cons_of_mem _ hi)]
    rfl
theorem four_at (f : Nat → Nm) {i : Nat} (hi : i < 7) : ((cells28 f).toList.drop (i * 4)).take 4 = (nmV (f i)).cells.toList := by
  refine List.ext_getElem? fun j => ?_
  rw [List.getElem?_take]
  by_cases hj : j < 4
  · rw [if_pos hj, List.getElem?_drop, Array.getElem?_toList, cells28_at f _ (by omega), show (i * 4 + j) / 4 = i by omega, show (i * 4 + j) % 4 = j by omega]
    rcases (show j = 0 ∨ j = 1 ∨ j = 2 ∨ j = 3 by omega) with rfl | rfl | rfl | rfl <;> rfl
  · rw [if_neg hj, List.getElem?_eq_none]
    simp [nmV, Value.cells]; omega
theorem wCells : Tryz.prog.cellsOf 99 = 28 := by kernel_rfl
theorem wKey : Tryz.prog.keyType 99 = true := by kernel_rfl
theorem wRow : 99 < Tryz.prog.types.size := of_decide_eq_true (by kernel_rfl)
theorem wWide : (match Tryz.prog.underlying 99 with | some (.array _ _) | some (.struct _) => true | _ => false) = true := by kernel_rfl
theorem wAt : Tryz.prog.keyTypeAt 4 99 = true := by kernel_rfl
theorem nAt : Tryz.prog.keyTypeAt 3 97 = true := by kernel_rfl
set_option maxRecDepth 100000 in
theorem wLaw : Keyed Tryz.prog 99 := Keyed.of_law (deep_law_laid fLaid (m := 4) (by omega) wRow wAt wWide)
def litsN (n : Nm) : List Lit := [.int .i64 n.1.1, .int .i64 n.1.2.1, .int .i64 n.1.2.2, .int .i64 n.2]
theorem w_lits (d : Nat) (f : Nat → Nm) (h : ∀ x, x < 7 → Small (f x)) : Tryz.prog.keyLits (d + 4) 99 (cells28 f).toList = some ((List.range 7).map fun i => litsN (f i)).flatten := by
  have hm : (List.range 7).mapM (fun i => Tryz.prog.keyLits (d + 3) 97 (((cells28 f).toList.drop (i * 4)).take 4)) = some ((List.range 7).map fun i => litsN (f i)) := mapM_all fun i hi => by
    rw [four_at f (List.mem_range.1 hi)]
    exact nm_lits d (f i) (h i (List.mem_range.1 hi))
  unfold Program.keyLits
  rw [Tryz.underlying99]
  simp only [wCells, fCells, Array.length_toList, cells28_size, if_true, hm]
  rfl
theorem w_key (f : Nat → Nm) (h : ∀ x, x < 7 → Small (f x)) : ∃ l, keyOf Tryz.prog 99 (.agg (cells28 f)) = some l := by
  obtain ⟨d, hd⟩ : ∃ d, Tryz.prog.types.size + 1 = d + 4 := ⟨232 - 3, by rw [fSize]⟩
  obtain ⟨L, hL⟩ : ∃ L, Tryz.prog.keyLits (d + 4) 99 (cells28 f).toList = some L := ⟨_, w_lits d f h⟩
  refine ⟨.string (keyBytes L), ?_⟩
  unfold keyOf
  rw [Tryz.underlying99, hd]
  simp only [Value.cells, hL, wKey, Value.formed, Tryz.underlying99]
  simp [wCells, cells28_size]
set_option maxRecDepth 100000 in
theorem eq_last (f g : Nat → Nm) (hf : ∀ x, x < 7 → Small (f x)) (hg : ∀ x, x < 7 → Small (g x)) (W : World) : ∃ r : Bool, (Op.equal 99 (.agg (cells28 f)) (.agg (cells28 g))).run Tryz.prog W = .ok r W ∧ (r = true ↔ ∀ x, x < 7 → f x = g x) := by
  obtain ⟨l, hl⟩ := w_key f hf
  obtain ⟨m, hm⟩ := w_key g hg
  obtain ⟨r, hr, hiff⟩ := run_equal_deep (P := Tryz.prog) W (m := 4) (by omega) wAt wWide hl hm
  refine ⟨r, hr, hiff.trans ⟨fun e x hx => ?_, fun e => ?_⟩⟩
  · subst e
    have h1 := wLaw.inj hl hm
    injection h1 with h1
    exact cells28_inj h1 hx
  · rw [cells28_congr e, hm] at hl
    exact (Option.some.inj hl).symm
set_option maxRecDepth 100000 in
theorem eq_name (a b : Nm) (ha : Small a) (hb : Small b) (W : World) : (Op.equal 97 (nmV a) (nmV b)).run Tryz.prog W = .ok (a == b) W := by
  obtain ⟨r, hr, hiff⟩ := run_equal_deep (P := Tryz.prog) W (m := 3) (by omega) nAt fWide (nm_key a ha) (nm_key b hb)
  have : r = (a == b) := by
    rw [Bool.eq_iff_iff, hiff, beq_iff_eq]
    exact ⟨fun e => nm_inj ha hb e, fun e => by rw [e]⟩
  rw [← this]; exact hr
theorem wGuard : Tryz.prog.eqGuardType Tryz.prog.depth 99 = false := by kernel_rfl
theorem nGuard : Tryz.prog.eqGuardType Tryz.prog.depth 97 = false := by kernel_rfl
/-- Two values of many cells are compared. -/
theorem wpList_eql_agg {P : Program} {ops : Array Oper} {rest : List Oper} {o : Oper} {a : Act} {w : World} {Q : Exit → Act → World → Prop} (hw : Region.wanted o (yielded ops a.tmps) = true) (t u : TypeId) (x y : Operand) (ho : o.op = .binOp .eql t x y u)
    (xs ys : Array Value) (hx : a.eval x = .agg xs) (hy : a.eval y = .agg ys) (hg : P.eqGuardType P.depth t = false) (r : Bool) (hr : (Op.equal t (.agg xs) (.agg ys)).run P w = .ok r w) (h : wpList P ops Q rest (a.put o.dst (.bool r)) w) : wpList P ops Q (o :: rest) a w := by
  refine Go.BigFrame.wpList_want hw fun K hK => ?_
  unfold Oper.wp execOp
  simp only [ho, hx, hy, eqGuard, binOp, Sem.run_bind]
  simp [hg, hr]
  exact hK _ _ h
end Go.Proofs.YtccjognnehoodahGreat

namespace Go.Proofs.YtccjognnehoodahGreat
open Go.RowKit Go.Maps

/-- Of the blocks below a base one alone has turned. -/
structure Save (a B : Nat) (w w' : World) : Prop where
  os : w'.os = w.os
  tape : w'.tape = w.tape
  output : w'.output = w.output
  size : w.heap.size ≤ w'.heap.size
  block : ∀ k, k < B → k ≠ a → w'.heap[k]? = w.heap[k]?
theorem Save.refl (a B : Nat) (w : World) : Save a B w w := ⟨rfl, rfl, rfl, Nat.le_refl _, fun _ _ _ => rfl⟩
theorem Save.trans {a B : Nat} {w w1 w2 : World} (h : Save a B w w1) (k : Save a B w1 w2) : Save a B w w2 :=
  ⟨k.os.trans h.os, k.tape.trans h.tape, k.output.trans h.output, Nat.le_trans h.size k.size, fun j h1 h2 => (k.block j h1 h2).trans (h.block j h1 h2)⟩
theorem Save.mono {a B C : Nat} {w w1 : World} (h : Save a B w w1) (hC : C ≤ B) : Save a C w w1 := ⟨h.os, h.tape, h.output, h.size, fun k h1 h2 => h.block k (by omega) h2⟩
theorem Save.of_below {a B : Nat} {w w1 : World} (h : Below B w w1) : Save a B w w1 := ⟨h.os, h.tape, h.output, h.size, fun k hk _ => h.block k hk⟩
theorem Save.grown {a : Nat} {w w1 : World} (h : Save a w.heap.size w w1) : w.grownBy w1 (some a) := ⟨h.os, h.tape, h.output, h.size, fun k hk hne => h.block k hk (fun e => hne (by rw [e]))⟩
theorem Save.of_grown {a : Nat} {w w1 : World} (h : w.grownBy w1 (some a)) : Save a w.heap.size w w1 := ⟨h.os, h.tape, h.output, h.size, fun k hk hne => h.block k hk (fun e => hne (Option.some.inj e))⟩
theorem Save.below {a B : Nat} {w w1 : World} (h : Save a B w w1) (hs : w1.heap[a]? = w.heap[a]?) : Below B w w1 := ⟨h.os, h.tape, h.output, h.size, fun k hk => by
  by_cases e : k = a
  · rw [e]; exact hs
  · exact h.block k hk e⟩
def lastF (l : List Op3) (k : Nat) : Nat → Nm := fun x => lastW l k (x : Int)
theorem lastF_write {l : List Op3} {k : Nat} {x : Int} (h1 : (opAt l k).2.1 = 2) (h2 : (opAt l k).2.2 = x) (hx : 0 ≤ x) : lastF l (k + 1) = setW (lastF l k) x.toNat (nameAt l k) := by
  funext y
  unfold lastF setW
  by_cases e : y = x.toNat
  · rw [if_pos e, lastW_hit h1 (by rw [h2]; omega)]
  · rw [if_neg e, lastW_pass (by rw [h2]; omega)]
theorem lastF_pass {l : List Op3} {k : Nat} (h : (opAt l k).2.1 ≠ 2) : lastF l (k + 1) = lastF l k := by
  funext y
  unfold lastF
  rw [lastW_pass fun hh => h hh.1]
theorem wrTo_lt {l : List Op3} {k j : Nat} {x : Int} (h : wrTo l x k = some j) : j < k := (wrTo_some h).1
theorem small_zN : Small zN := ⟨wf_small (by decide) (by decide), wf_small (by decide) (by decide), wf_small (by decide) (by decide), wf_small (by decide) (by decide)⟩
theorem small_last {l : List Op3} {k : Nat} (hl : l.length ≤ 40) (hop : ∀ o ∈ l, isOpB o = true) (hk : k ≤ l.length) (x : Int) : Small (lastW l k x) := by
  cases h : wrTo l x k with
  | none => rw [lastW_none h]; exact small_zN
  | some j => rw [lastW_some h]; exact small_name hl hop (by have := wrTo_lt h; omega)
theorem small_src {l : List Op3} {k : Nat} (hl : l.length ≤ 40) (hop : ∀ o ∈ l, isOpB o = true) (hk : k ≤ l.length) : Small (srcN l k) := by
  unfold srcN
  split
  · exact small_last hl hop hk _
  · exact small_zN
theorem row_other {w : World} {g k : Nat} {cs : Array Value} (h : k ≠ g) : (w.setRow g cs).heap[k]? = w.heap[k]? := by
  unfold World.setRow
  simp [Array.getElem?_modify, h.symm]
theorem Save.setRow {a B : Nat} {w w1 : World} {cs : Array Value} (h : Save a B w w1) : Save a B w (w1.setRow B cs) := ⟨h.os, h.tape, h.output, by simpa [World.setRow] using h.size, fun k h1 h2 => (row_other (by omega)).trans (h.block k h1 h2)⟩
theorem results_two {P : Program} {fn : Func} {p q : Tmp} {ty : TypeId} (h : fn.results = #[.cell p ty, .tmp q]) (tmps : Array Value) (w : World) (g : Nat) (t : TypeId) (cs : Array Value) (fr : Nat × Nat) (d : TypeDesc) (v : Value)
    (hp : tmps.getD p undef = .pointer (some ⟨g, 0, none⟩)) (hq : tmps.getD q undef = v) (hg : w.heap[g]? = some (.cells cs t fr))
    (hu : P.underlying ty = some d) (hd : (match d with | .struct _ | .array _ _ => true | _ => false) = true) (hi : (P.info? ty).map (·.size) = some cs.size) :
    (results fn tmps).run P w = .ok (.tuple #[.agg cs, v]) w := by
  have hp' : tmps[p]?.getD undef = .pointer (some ⟨g, 0, none⟩) := by simpa using hp
  have hq' : tmps[q]?.getD undef = v := by simpa using hq
  simp [results, h, hp', hq', asAddr, run_loadVar_row w g t ty cs fr d hg hu hd hi]

set_option maxHeartbeats 8000000 in
set_option maxRecDepth 100000 in
theorem follow_any (l : List Op3) (nv cap : Value) (N M : Nat) (es : Array MapEntry) (clock : Nat) (w : World) (Inv : Nat → World → Prop) (ok : Nat → Bool)
    (hcall : ∀ (args : Array Value) (W : World), (callFunc N args).run Tryz.prog W = .ok (.enter N args) W)
    (hN : IsNames w nv (namesTo l l.length)) (hl : l.length ≤ 40) (hop : ∀ o ∈ l, isOpB o = true) (hM : w.heap[M]? = some (.map es clock)) (h0 : Inv 0 w)
    (hkeep : ∀ k W W', Inv k W → W'.heap[M]? = W.heap[M]? → Inv k W')
    (hstep : ∀ k, k < l.length → ∀ W, Inv k W → Save M w.heap.size w W → Calls Tryz.prog N #[nmV (nameAt l k), nmV (srcN l k), cap] W fun e W' => e = .returned (.bool (ok k)) ∧ Inv (if ok k = true then k + 1 else k) W' ∧ Save M W.heap.size W W') :
    Calls Tryz.prog 84 #[nv, .func (.func N) #[] #[cap]] w fun e w' => ∃ k, k ≤ l.length ∧ (∀ j, j < k → ok j = true) ∧ (k < l.length → ok k = false) ∧ e = .returned (.tuple #[.agg (cells28 (lastF l k)), .bool (decide (k = l.length))]) ∧ Inv k w' ∧ Save M w.heap.size w w' := by
  obtain ⟨ad, b, off, cp, rfl, hcel⟩ := names_cells hN hM (namesTo_len l l.length)
  have HC : Hid (∀ W, Save M w.heap.size w W → ∀ k, k < l.length → ad = some ⟨b, off, none⟩ ∧ W.cell? ⟨b, off + k * 4, none⟩ = some (.int .i64 (nameAt l k).1.1) ∧ W.cell? ⟨b, off + k * 4 + 1, none⟩ = some (.int .i64 (nameAt l k).1.2.1) ∧ W.cell? ⟨b, off + k * 4 + 2, none⟩ = some (.int .i64 (nameAt l k).1.2.2) ∧ W.cell? ⟨b, off + k * 4 + 3, none⟩ = some (.int .i64 (nameAt l k).2)) := fun W hW k hk => by
    have := hcel W hW.grown k hk
    rw [nmAt_names l _ k hk] at this
    exact this
  have hMl : M < w.heap.size := (Array.getElem?_eq_some_iff.1 hM).1
  have HOP : Hid (∀ o ∈ l, isOpB o = true) := hop
  have HST : Hid (∀ k, k < l.length → ∀ W, Inv k W → Save M w.heap.size w W → Calls Tryz.prog N #[nmV (nameAt l k), nmV (srcN l k), cap] W fun e W' => e = .returned (.bool (ok k)) ∧ Inv (if ok k = true then k + 1 else k) W' ∧ Save M W.heap.size W W') := hstep
  have HKP : Hid (∀ k W W', Inv k W → W'.heap[M]? = W.heap[M]? → Inv k W') := hkeep
  have H0 : Hid (Inv 0 w) := h0
  clear hcel hN hM hop hstep hkeep h0
  go_enter Tryz.func84, Tryz.ntmps84
  go_wp2_with fail
  go_loopw [12] (fun v12 wr => ∃ k : Nat, k ≤ l.length ∧ v12 = .int .i64 k ∧ (∀ j, j < k → ok j = true) ∧ Inv k wr ∧ LastAt wr (w.heap.size + 1) (lastF l k) ∧ LastAt wr w.heap.size (fun _ => zN) ∧ Save M w.heap.size w wr) (fun v12 _ => l.length - (intOf v12).toNat)
  case atStart =>
    refine ⟨0, Nat.zero_le _, rfl, fun j hj => absurd hj (by omega), HKP.out 0 w _ H0.out ((((Below.refl _ w).alloc (Nat.le_refl _) _).alloc (by simp) _).block M hMl), ?_, (last_fresh w _ rfl).alloc _, Save.of_below (((Below.refl _ w).alloc (Nat.le_refl _) _).alloc (by simp) _)⟩
    have h1 := last_fresh (w.alloc (.cells (cells28 fun _ => zN) 99)) _ rfl
    rw [show (w.alloc (.cells (cells28 fun _ => zN) 99)).heap.size = w.heap.size + 1 by simp] at h1
    exact h1
  case round =>
    obtain ⟨k, hk, rfl, hall, hinv, hla, hze, hsv⟩ := hrel
    have HALL : Hid (∀ j, j < k → ok j = true) := hall
    have HINV : Hid (Inv k wr) := hinv
    have HLA : Hid (LastAt wr (w.heap.size + 1) (lastF l k)) := hla
    have HZE : Hid (LastAt wr w.heap.size (fun _ => zN)) := hze
    have HSV : Hid (Save M w.heap.size w wr) := hsv
    have hsz := hla.lt
    clear hall hinv hla hze hsv
    by_cases hlt : k < l.length
    · have hlt' : (k : Int) < (l.length : Int) := by omega
      obtain ⟨rfl, c0, c1, c2, c3⟩ := HC.out wr HSV.out k hlt
      obtain ⟨⟨⟨t, a, x⟩, m⟩, hnm⟩ : ∃ n, nameAt l k = n := ⟨_, rfl⟩
      have ho : opAt l k = (t, a, x) := congrArg Prod.fst hnm
      have hisop := HOP.out _ (opAt_mem hlt)
      rw [ho] at hisop
      have HNM : Hid (nameAt l k = ((t, a, x), m)) := hnm
      have HO : Hid (opAt l k = (t, a, x)) := ho
      have HIS : Hid (isOpB (t, a, x) = true) := hisop
      rw [hnm] at c0 c1 c2 c3
      simp only at c0 c1 c2 c3
      clear hnm ho hisop
      go_upto_region 6 with (fail)
      obtain ⟨W, hW⟩ : ∃ W, W = (wr.alloc (.cells #[.int .i64 t, .int .i64 a, .int .i64 x, .int .i64 m] 97)).alloc (.cells #[.int .i64 0, .int .i64 0, .int .i64 0, .int .i64 0] 97) := ⟨_, rfl⟩
      rw [← hW]
      obtain ⟨P, hP⟩ : ∃ P, P = wr.heap.size := ⟨_, rfl⟩
      obtain ⟨R, hR⟩ : ∃ R, R = wr.heap.size + 1 := ⟨_, rfl⟩
      rw [← hR, ← hP]
      have p0 : W.cell? ⟨P, 0, none⟩ = some (.int .i64 t) := by rw [hW, hP]; simp
      have p1 : W.cell? ⟨P, 1, none⟩ = some (.int .i64 a) := by rw [hW, hP]; simp
      have p2 : W.cell? ⟨P, 2, none⟩ = some (.int .i64 x) := by rw [hW, hP]; simp
      have p3 : W.cell? ⟨P, 3, none⟩ = some (.int .i64 m) := by rw [hW, hP]; simp
      have q0 : W.cell? ⟨R, 0, none⟩ = some (.int .i64 0) := by rw [hW, hR]; simp
      have q1 : W.cell? ⟨R, 1, none⟩ = some (.int .i64 0) := by rw [hW, hR]; simp
      have q2 : W.cell? ⟨R, 2, none⟩ = some (.int .i64 0) := by rw [hW, hR]; simp
      have q3 : W.cell? ⟨R, 3, none⟩ = some (.int .i64 0) := by rw [hW, hR]; simp
      have z0 : W.frozen? ⟨R, 0, none⟩ = false := by rw [hW, hR]; simp
      have z1 : W.frozen? ⟨R, 1, none⟩ = false := by rw [hW, hR]; simp
      have z2 : W.frozen? ⟨R, 2, none⟩ = false := by rw [hW, hR]; simp
      have z3 : W.frozen? ⟨R, 3, none⟩ = false := by rw [hW, hR]; simp
      have hbw : Below wr.heap.size wr W := by rw [hW]; exact ((Below.refl _ wr).alloc (Nat.le_refl _) _).alloc (by simp) _
      have hsR : R < W.heap.size := by rw [hW, hR]; simp
      have HLW : Hid (LastAt W (w.heap.size + 1) (lastF l k)) := HLA.out.below hbw hsz
      have HZW : Hid (LastAt W w.heap.size (fun _ => zN)) := HZE.out.below hbw (by omega)
      have HIW : Hid (Inv k W) := HKP.out k wr W HINV.out (hbw.block M (by omega))
      have HSW : Hid (Save M w.heap.size w W) := HSV.out.trans (Save.of_below (hbw.mono (by omega)))
      have hPR : P < R := by omega
      have hPB : w.heap.size + 1 < P := by omega
      clear hW hP hR hbw HLA HZE HINV HSV c0 c1 c2 c3 hsz
      have hne : ¬ R = P := by omega
      have hne' : ¬ P = R := by omega
      by_cases ha1 : a = 1
      · subst ha1
        obtain ⟨hx1, hx6⟩ := isOp_item HIS.out (.inl rfl)
        simp only at hx1 hx6
        have hx7 : x < 7 := by omega
        have hx0 : 0 ≤ x := by omega
        obtain ⟨⟨⟨s1, s2, s3⟩, sm⟩, hsrc⟩ : ∃ n, lastF l k x.toNat = n := ⟨_, rfl⟩
        obtain ⟨d0, d1, d2, d3⟩ := HLW.out.cells (x := x.toNat) (by omega) hsrc
        have HSRC : Hid (srcN l k = ((s1, s2, s3), sm)) := by
          show srcN l k = ((s1, s2, s3), sm)
          rw [← hsrc]
          unfold srcN lastF
          rw [HO.out, if_pos rfl, show ((x.toNat : Nat) : Int) = x by omega]
        clear hsrc
        go_wp2_with fail
        obtain ⟨V, hV⟩ : ∃ V, V = (((W.setCell ⟨R, 0, none⟩ (.int .i64 s1)).setCell ⟨R, 1, none⟩ (.int .i64 s2)).setCell ⟨R, 2, none⟩ (.int .i64 s3)).setCell ⟨R, 3, none⟩ (.int .i64 sm) := ⟨_, rfl⟩
        rw [← hV]
        have hbV : Below R W V := by rw [hV]; exact ((((Below.refl R W).setCell (Nat.le_refl _) _).setCell (Nat.le_refl _) _).setCell (Nat.le_refl _) _).setCell (Nat.le_refl _) _
        have HLV : Hid (LastAt V (w.heap.size + 1) (lastF l k)) := HLW.out.below hbV (by omega)
        have HZV : Hid (LastAt V w.heap.size (fun _ => zN)) := HZW.out.below hbV (by omega)
        have HIV : Hid (Inv k V) := HKP.out k W V HIW.out (hbV.block M (by omega))
        have HSVV : Hid (Save M w.heap.size w V) := HSW.out.trans (Save.of_below (hbV.mono (by omega)))
        have v0 := (hbV.cell (p := ⟨P, 0, none⟩) hPR).trans p0
        have v1 := (hbV.cell (p := ⟨P, 1, none⟩) hPR).trans p1
        have v2 := (hbV.cell (p := ⟨P, 2, none⟩) hPR).trans p2
        have v3 := (hbV.cell (p := ⟨P, 3, none⟩) hPR).trans p3
        clear hV hbV d0 d1 d2 d3 p0 p1 p2 p3 q0 q1 q2 q3 z0 z1 z2 z3 HLW HZW HIW HSW hsR
        have HSTK : Hid (Calls Tryz.prog N #[.agg #[.int .i64 t, .int .i64 1, .int .i64 x, .int .i64 m], .agg #[.int .i64 s1, .int .i64 s2, .int .i64 s3, .int .i64 sm], cap] V fun e W' => e = .returned (.bool (ok k)) ∧ Inv (if ok k = true then k + 1 else k) W' ∧ Save M V.heap.size V W') := by
          have h1 := HST.out k hlt V HIV.out HSVV.out
          rw [HNM.out, HSRC.out] at h1
          exact h1
        refine HSTK.out.mono ?_
        rintro e w1 ⟨rfl, hin1, hsv1⟩
        have HL1 : Hid (LastAt w1 (w.heap.size + 1) (lastF l k)) := HLV.out.same (hsv1.block _ HLV.out.lt (by omega))
        have HZ1 : Hid (LastAt w1 w.heap.size (fun _ => zN)) := HZV.out.same (hsv1.block _ HZV.out.lt (by omega))
        have HS1 : Hid (Save M w.heap.size w w1) := HSVV.out.trans (hsv1.mono HSVV.out.size)
        have hPV : P < V.heap.size := World.block_lt_of_cell? V _ v0
        have e0 : w1.cell? ⟨P, 0, none⟩ = some (.int .i64 t) := (World.cell?_of_block (a := ⟨P, 0, none⟩) (hsv1.block P hPV (by omega))).trans v0
        have e1 : w1.cell? ⟨P, 1, none⟩ = some (.int .i64 1) := (World.cell?_of_block (a := ⟨P, 1, none⟩) (hsv1.block P hPV (by omega))).trans v1
        have e2 : w1.cell? ⟨P, 2, none⟩ = some (.int .i64 x) := (World.cell?_of_block (a := ⟨P, 2, none⟩) (hsv1.block P hPV (by omega))).trans v2
        have e3 : w1.cell? ⟨P, 3, none⟩ = some (.int .i64 m) := (World.cell?_of_block (a := ⟨P, 3, none⟩) (hsv1.block P hPV (by omega))).trans v3
        clear v0 v1 v2 v3 hsv1 HSTK HIV HSVV HLV HZV hPV
        cases hok : ok k with
        | false =>
          rw [hok] at hin1
          have HI1 : Hid (Inv k w1) := hin1
          have HOK : Hid (ok k = false) := hok
          clear hin1 hok
          go_wp2_with (first | refine wpList_load_row rfl 99 (.tmp 6) rfl (w.heap.size + 1) rfl 99 (cells28 (lastF l k)) (0, 0) _ HL1.out Tryz.underlying99 rfl (last_info' _) ?_ | refine wpList_store_row rfl 99 (.tmp 4) (.tmp 30) rfl w.heap.size (cells28 (lastF l k)) rfl rfl 99 (cells28 fun _ => zN) HZ1.out (last_info' _) (by rw [cells28_size, cells28_size]) (cells28_one _) ?_)
          exact bodyPost_ret (v := .tuple #[.agg (cells28 (lastF l k)), .bool false]) (results_two Tryz.results84 _ _ w.heap.size 99 (cells28 (lastF l k)) (0, 0) _ _ rfl rfl (setRow_heap _ _ _ _ _ _ HZ1.out) Tryz.underlying99 rfl (last_info' _)) rfl ⟨k, by omega, HALL.out, fun _ => HOK.out, by rw [show decide (k = l.length) = false from decide_eq_false (by omega)], HKP.out k w1 _ HI1.out (row_other (by omega)), HS1.out.setRow⟩
        | true =>
          rw [hok] at hin1
          have HI1 : Hid (Inv (k + 1) w1) := hin1
          have HOK : Hid (∀ j, j < k + 1 → ok j = true) := fun j hj => by
            rcases Nat.lt_or_ge j k with h | h
            · exact HALL.out j h
            · rw [show j = k by omega]; exact hok
          clear hin1 hok
          have HF : Hid (lastF l (k + 1) = lastF l k) := lastF_pass (by rw [HO.out]; show (1 : Int) ≠ 2; decide)
          go_wp2_with fail
          go_roundw
          case rel => exact ⟨k + 1, by omega, by go_num, HOK.out, HI1.out, by rw [HF.out]; exact HL1.out, HZ1.out, HS1.out⟩
          case measure => simp [intOf]; omega
      · have ha1' : (a == 1) = false := by simpa using ha1
        have HSRC : Hid (srcN l k = zN) := by
          show srcN l k = zN
          unfold srcN
          rw [HO.out, if_neg ha1]
        clear ha1
        have HLV : Hid (LastAt W (w.heap.size + 1) (lastF l k)) := HLW.out
        have HZV : Hid (LastAt W w.heap.size (fun _ => zN)) := HZW.out
        have HIV : Hid (Inv k W) := HIW.out
        have HSVV : Hid (Save M w.heap.size w W) := HSW.out
        clear HLW HZW HIW HSW
        go_wp2_with fail
        have v0 := p0
        have v1 := p1
        have v2 := p2
        have v3 := p3
        clear p0 p1 p2 p3 q0 q1 q2 q3 z0 z1 z2 z3
        have HSTK : Hid (Calls Tryz.prog N #[.agg #[.int .i64 t, .int .i64 a, .int .i64 x, .int .i64 m], .agg #[.int .i64 0, .int .i64 0, .int .i64 0, .int .i64 0], cap] W fun e W' => e = .returned (.bool (ok k)) ∧ Inv (if ok k = true then k + 1 else k) W' ∧ Save M W.heap.size W W') := by
          have h1 := HST.out k hlt W HIV.out HSVV.out
          rw [HNM.out, HSRC.out] at h1
          exact h1
        refine HSTK.out.mono ?_
        rintro e w1 ⟨rfl, hin1, hsv1⟩
        have HL1 : Hid (LastAt w1 (w.heap.size + 1) (lastF l k)) := HLV.out.same (hsv1.block _ HLV.out.lt (by omega))
        have HZ1 : Hid (LastAt w1 w.heap.size (fun _ => zN)) := HZV.out.same (hsv1.block _ HZV.out.lt (by omega))
        have HS1 : Hid (Save M w.heap.size w w1) := HSVV.out.trans (hsv1.mono HSVV.out.size)
        have hPV : P < W.heap.size := World.block_lt_of_cell? W _ v0
        have e0 : w1.cell? ⟨P, 0, none⟩ = some (.int .i64 t) := (World.cell?_of_block (a := ⟨P, 0, none⟩) (hsv1.block P hPV (by omega))).trans v0
        have e1 : w1.cell? ⟨P, 1, none⟩ = some (.int .i64 a) := (World.cell?_of_block (a := ⟨P, 1, none⟩) (hsv1.block P hPV (by omega))).trans v1
        have e2 : w1.cell? ⟨P, 2, none⟩ = some (.int .i64 x) := (World.cell?_of_block (a := ⟨P, 2, none⟩) (hsv1.block P hPV (by omega))).trans v2
        have e3 : w1.cell? ⟨P, 3, none⟩ = some (.int .i64 m) := (World.cell?_of_block (a := ⟨P, 3, none⟩) (hsv1.block P hPV (by omega))).trans v3
        clear v0 v1 v2 v3 hsv1 HSTK HIV HSVV HLV HZV hPV
        cases hok : ok k with
        | false =>
          rw [hok] at hin1
          have HI1 : Hid (Inv k w1) := hin1
          have HOK : Hid (ok k = false) := hok
          clear hin1 hok
          go_wp2_with (first | refine wpList_load_row rfl 99 (.tmp 6) rfl (w.heap.size + 1) rfl 99 (cells28 (lastF l k)) (0, 0) _ HL1.out Tryz.underlying99 rfl (last_info' _) ?_ | refine wpList_store_row rfl 99 (.tmp 4) (.tmp 30) rfl w.heap.size (cells28 (lastF l k)) rfl rfl 99 (cells28 fun _ => zN) HZ1.out (last_info' _) (by rw [cells28_size, cells28_size]) (cells28_one _) ?_)
          exact bodyPost_ret (v := .tuple #[.agg (cells28 (lastF l k)), .bool false]) (results_two Tryz.results84 _ _ w.heap.size 99 (cells28 (lastF l k)) (0, 0) _ _ rfl rfl (setRow_heap _ _ _ _ _ _ HZ1.out) Tryz.underlying99 rfl (last_info' _)) rfl ⟨k, by omega, HALL.out, fun _ => HOK.out, by rw [show decide (k = l.length) = false from decide_eq_false (by omega)], HKP.out k w1 _ HI1.out (row_other (by omega)), HS1.out.setRow⟩
        | true =>
          rw [hok] at hin1
          have HI1 : Hid (Inv (k + 1) w1) := hin1
          have HOK : Hid (∀ j, j < k + 1 → ok j = true) := fun j hj => by
            rcases Nat.lt_or_ge j k with h | h
            · exact HALL.out j h
            · rw [show j = k by omega]; exact hok
          clear hin1 hok
          by_cases ha2 : a = 2
          · subst ha2
            obtain ⟨hx1, hx6⟩ := isOp_item HIS.out (.inr rfl)
            simp only at hx1 hx6
            have hx7 : x < 7 := by omega
            have hx0 : 0 ≤ x := by omega
            obtain ⟨⟨⟨s1, s2, s3⟩, sm⟩, hsrc⟩ : ∃ n, lastF l k x.toNat = n := ⟨_, rfl⟩
            obtain ⟨d0, d1, d2, d3⟩ := HL1.out.cells (x := x.toNat) (by omega) hsrc
            clear hsrc
            have y0 := HL1.out.thaw (x.toNat * 4)
            have y1 := HL1.out.thaw (x.toNat * 4 + 1)
            have y2 := HL1.out.thaw (x.toNat * 4 + 2)
            have y3 := HL1.out.thaw (x.toNat * 4 + 3)
            have HF : Hid (lastF l (k + 1) = setW (lastF l k) x.toNat ((t, 2, x), m)) := by
              show lastF l (k + 1) = setW (lastF l k) x.toNat ((t, 2, x), m)
              rw [← HNM.out]
              exact lastF_write (by rw [HO.out]) (by rw [HO.out]) hx0
            have HLN : Hid (LastAt ((((w1.setCell ⟨w.heap.size + 1, x.toNat * 4, none⟩ (.int .i64 t)).setCell ⟨w.heap.size + 1, x.toNat * 4 + 1, none⟩ (.int .i64 2)).setCell ⟨w.heap.size + 1, x.toNat * 4 + 2, none⟩ (.int .i64 x)).setCell ⟨w.heap.size + 1, x.toNat * 4 + 3, none⟩ (.int .i64 m)) (w.heap.size + 1) (lastF l (k + 1))) := by
              rw [HF.out]
              exact HL1.out.set x.toNat ((t, 2, x), m)
            have HBN : Hid (Below (w.heap.size + 1) w1 ((((w1.setCell ⟨w.heap.size + 1, x.toNat * 4, none⟩ (.int .i64 t)).setCell ⟨w.heap.size + 1, x.toNat * 4 + 1, none⟩ (.int .i64 2)).setCell ⟨w.heap.size + 1, x.toNat * 4 + 2, none⟩ (.int .i64 x)).setCell ⟨w.heap.size + 1, x.toNat * 4 + 3, none⟩ (.int .i64 m))) := by
              refine ((((Below.refl (w.heap.size + 1) w1).setCell ?_ _).setCell ?_ _).setCell ?_ _).setCell ?_ _ <;> exact Nat.le_refl _
            go_wp2_with fail
            go_roundw
            case rel => exact ⟨k + 1, by omega, by go_num, HOK.out, HKP.out _ w1 _ HI1.out (HBN.out.block M (by omega)), HLN.out, HZ1.out.below HBN.out (by omega), HS1.out.trans (Save.of_below (HBN.out.mono (by omega)))⟩
            case measure => simp [intOf]; omega
          · have ha2' : (a == 2) = false := by simpa using ha2
            have HF : Hid (lastF l (k + 1) = lastF l k) := lastF_pass (by rw [HO.out]; exact ha2)
            clear ha2
            go_wp2_with fail
            go_roundw
            case rel => exact ⟨k + 1, by omega, by go_num, HOK.out, HI1.out, by rw [HF.out]; exact HL1.out, HZ1.out, HS1.out⟩
            case measure => simp [intOf]; omega
    · have hlt' : ¬ (k : Int) < (l.length : Int) := by omega
      obtain rfl : k = l.length := by omega
      go_wp2_with (first | refine wpList_load_row rfl 99 (.tmp 6) rfl (w.heap.size + 1) rfl 99 (cells28 (lastF l l.length)) (0, 0) _ HLA.out Tryz.underlying99 rfl (last_info' _) ?_ | refine wpList_store_row rfl 99 (.tmp 4) (.tmp 41) rfl w.heap.size (cells28 (lastF l l.length)) rfl rfl 99 (cells28 fun _ => zN) HZE.out (last_info' _) (by rw [cells28_size, cells28_size]) (cells28_one _) ?_)
      exact bodyPost_ret (v := .tuple #[.agg (cells28 (lastF l l.length)), .bool true]) (results_two Tryz.results84 _ _ w.heap.size 99 (cells28 (lastF l l.length)) (0, 0) _ _ rfl rfl (setRow_heap _ _ _ _ _ _ HZE.out) Tryz.underlying99 rfl (last_info' _)) rfl ⟨l.length, Nat.le_refl _, HALL.out, fun h => absurd h (by omega), by simp, HKP.out _ wr _ HINV.out (row_other (by omega)), HSV.out.setRow⟩
end Go.Proofs.YtccjognnehoodahGreat
