/-
  PROVED HERE: a name (an op, and which of its deal's ops it is) as a map's key; names beside a map in memory.
  Conditions: none.
-/
import Derived.Test.YtjaeaanpbdmfgacDoorOddNames
import Derived.Test.YtjaeaanpbdmfgacDoorDeals
import Derived.Maps.OwnSet
import Derived.Maps.OwnOps
import Derived.Maps.AppendAt
import Derived.DeepKeys4
namespace Go.Proofs.YtjaeaanpbdmfgacDoor
open Go.RowKit Go.Maps

/-- A name as a map's key. -/
def nmV (n : Nm) : Value := .agg #[.int .i64 n.1.1, .int .i64 n.1.2.1, .int .i64 n.1.2.2, .int .i64 n.2]
def nmL (n : Nm) : Lit := .string (keyBytes [.int .i64 n.1.1, .int .i64 n.1.2.1, .int .i64 n.1.2.2, .int .i64 n.2])
theorem fSize : Tryd.prog.types.size = 206 := by kernel_rfl
theorem fLaid : laidOutB Tryd.prog = true := by kernel_rfl
theorem fRow : 53 < Tryd.prog.types.size := of_decide_eq_true (by kernel_rfl)
theorem fWide : (match Tryd.prog.underlying 53 with | some (.array _ _) | some (.struct _) => true | _ => false) = true := by kernel_rfl
set_option maxRecDepth 100000 in
theorem fLaw : Keyed Tryd.prog 53 := Keyed.of_law (deep_law_laid fLaid (m := 3) (by omega) fRow (by kernel_rfl) fWide)
theorem fKey : Tryd.prog.keyType 53 = true := by kernel_rfl
theorem fCells : Tryd.prog.cellsOf 53 = 4 := by kernel_rfl
theorem fCellsOp : Tryd.prog.cellsOf 29 = 3 := by kernel_rfl
theorem fCellsInt : Tryd.prog.cellsOf 3 = 1 := by kernel_rfl
def Small (n : Nm) : Prop := (Lit.int .i64 n.1.1).wf = true ∧ (Lit.int .i64 n.1.2.1).wf = true ∧ (Lit.int .i64 n.1.2.2).wf = true ∧ (Lit.int .i64 n.2).wf = true
theorem nm_lits (d : Nat) (n : Nm) (h : Small n) : Tryd.prog.keyLits (d + 3) 53 (nmV n).cells.toList = some [.int .i64 n.1.1, .int .i64 n.1.2.1, .int .i64 n.1.2.2, .int .i64 n.2] := by
  obtain ⟨h0, h1, h2, h3⟩ := h
  simp [Program.keyLits, nmV, Value.cells, h0, h1, h2, h3, fCells, fCellsOp, fCellsInt, Tryd.underlying53, Tryd.underlying29, Tryd.underlying3]
  rw [if_pos]
  · rfl
  · intro i hi
    rcases (show i = 0 ∨ i = 1 ∨ i = 2 by omega) with rfl | rfl | rfl <;> simp
theorem nm_key (n : Nm) (h : Small n) : keyOf Tryd.prog 53 (nmV n) = some (nmL n) := by
  obtain ⟨d, hd⟩ : ∃ d, Tryd.prog.types.size + 1 = d + 3 := ⟨206 - 2, by rw [fSize]⟩
  have hl := nm_lits d n h
  unfold keyOf
  rw [Tryd.underlying53, hd]
  simp only [hl, fKey, Value.formed, Tryd.underlying53]
  simp [nmV, fCells, nmL]
theorem nm_inj {a b : Nm} (ha : Small a) (hb : Small b) (h : nmL a = nmL b) : a = b := by
  have h1 := fLaw.inj (nm_key a ha) (h ▸ nm_key b hb)
  obtain ⟨⟨a1, a2, a3⟩, a4⟩ := a
  obtain ⟨⟨b1, b2, b3⟩, b4⟩ := b
  simp [nmV] at h1
  obtain ⟨rfl, rfl, rfl, h4⟩ := h1
  have : a4 = b4 := by omega
  rw [this]
theorem wf_small {n : Int} (h0 : 0 ≤ n) (h1 : n ≤ 100) : (Lit.int .i64 n).wf = true := WalkArith.wf_i64 (by omega)
theorem small_name {l : List Op3} {i : Nat} (hl : l.length ≤ 40) (hop : ∀ o ∈ l, isOpB o = true) (hi : i < l.length) : Small (nameAt l i) := by
  have ho := hop _ (opAt_mem hi)
  have hn : nthAt l i ≤ 40 := by
    have h1 := List.length_filter_le (fun o : Op3 => o.1 == (opAt l i).1) (l.take i)
    have h2 : (l.take i).length ≤ i := List.length_take_le _ _
    unfold nthAt ofL; omega
  obtain ⟨⟨t, a, x⟩, hx⟩ : ∃ o, opAt l i = o := ⟨_, rfl⟩
  unfold nameAt Small
  rw [hx] at ho ⊢
  simp [isOpB] at ho
  obtain ⟨⟨⟨⟨h1, h2⟩, h3⟩, h4⟩, h5⟩ := ho
  have hxb : 0 ≤ x ∧ x ≤ 6 := by
    by_cases he : endsB a = true
    · simp [he] at h5; omega
    · simp [he] at h5; omega
  exact ⟨wf_small (by show (0 : Int) ≤ t; omega) (by show t ≤ 100; omega), wf_small (by show (0 : Int) ≤ a; omega) (by show a ≤ 100; omega), wf_small (by show (0 : Int) ≤ x; omega) (by show x ≤ 100; omega), wf_small (by simp) (by simp; omega)⟩
theorem spot_eq {h g : List Op3} {i j : Nat} (hj : j < g.length) (he : nameAt g j = nameAt h i) : spot h g i = j := by
  unfold spot; rw [place_name hj he]; rfl
/-- Names in a world that has grown beside a map. -/
theorem names_cells {w : World} {v : Value} {l : List Nm} {M : Nat} {es : Array MapEntry} {clock n : Nat} (hI : IsNames w v l) (hm : w.heap[M]? = some (.map es clock)) (hn : l.length = n) :
    ∃ (ad : Option Addr) (b off cap : Nat), v = .slice ad n cap ∧ ∀ W, w.grownBy W (some M) → ∀ k, k < n → ad = some ⟨b, off, none⟩ ∧ W.cell? ⟨b, off + k * 4, none⟩ = some (.int .i64 (nmAt l k).1.1) ∧ W.cell? ⟨b, off + k * 4 + 1, none⟩ = some (.int .i64 (nmAt l k).1.2.1) ∧ W.cell? ⟨b, off + k * 4 + 2, none⟩ = some (.int .i64 (nmAt l k).1.2.2) ∧ W.cell? ⟨b, off + k * 4 + 3, none⟩ = some (.int .i64 (nmAt l k).2) := by
  subst hn
  obtain ⟨ad, b, off, cap, hv, ha, _, hat⟩ := hI
  refine ⟨ad, b, off, cap, hv, fun W hW k hk => ?_⟩
  obtain ⟨c0, c1, c2, c3⟩ := hat k hk
  have hne : some b ≠ some M := by
    intro he
    have he := Option.some.inj he
    subst he
    simp [World.cell?, hm] at c0
  exact ⟨ha (by omega), hW.cell c0 hne, hW.cell c1 hne, hW.cell c2 hne, hW.cell c3 hne⟩
theorem map_block {P : Program} {k : TypeId} {R : Value → Option (DataW Unit × List MemPlace)} {w : World} {b n : Nat} {D : DataW Unit} (h : w.ownsMap P k R b n D) : ∃ es clock, w.heap[b]? = some (.map es clock) :=
  let ⟨es, clock, hb, _⟩ := h
  ⟨es, clock, hb⟩
theorem grown_of_below {w W : World} {row : Option Nat} (h : Below w.heap.size w W) : w.grownBy W row := ⟨h.os, h.tape, h.output, h.size, fun k hk _ => h.block k hk⟩
end Go.Proofs.YtjaeaanpbdmfgacDoor
