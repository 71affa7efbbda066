/-
  PROVED HERE: odds.names gives each op of a right list with which of its deal's ops it is, in new memory. Old memory stays as it was.
  Conditions: none.
  PROVED HERE: a name (an op, and which of its deal's ops it is) as a map's key; names beside a map in memory.
  Conditions: none.
  PROVED HERE: odds.find tells whether two right lists have the same names, and where each name of the one stands in the other. Old memory stays as it was.
  Conditions: none.
-/
import Derived.Test.YtgnbejemhdcemacOps
import Derived.Test.YtgnbejemhdcemacOddSame
import Derived.Test.YtgnbejemhdcemacRegion
import Derived.Test.YtgnbejemhdcemacDeals
import Derived.Maps.OwnSet
import Derived.Maps.OwnOps
import Derived.Maps.AppendAt
import Derived.DeepKeys4
import Derived.Deep.Cut
namespace Go.Proofs.Ytgnbejemhdcemac
open Go.RowKit

/-- A name: an op, and which of its deal's ops it is. -/
abbrev Nm := Op3 × Nat
def flatN : List Nm → List Value
  | [] => []
  | o :: r => .int .i64 o.1.1 :: .int .i64 o.1.2.1 :: .int .i64 o.1.2.2 :: .int .i64 o.2 :: flatN r
theorem flatN_length (l : List Nm) : (flatN l).length = l.length * 4 := by
  induction l with
  | nil => rfl
  | cons o r ih => simp [flatN, ih]; omega
theorem flatN_append (l m : List Nm) : flatN (l ++ m) = flatN l ++ flatN m := by
  induction l with
  | nil => rfl
  | cons o r ih => simp [flatN, ih]
theorem flatN_one (l : List Nm) : ∀ u ∈ flatN l, u.oneCell' = true := by
  induction l with
  | nil => intro u hu; cases hu
  | cons o r ih =>
    intro u hu
    simp only [flatN, List.mem_cons] at hu
    rcases hu with rfl | rfl | rfl | rfl | hu
    · rfl
    · rfl
    · rfl
    · rfl
    · exact ih u hu
def nmAt (l : List Nm) (i : Nat) : Nm := l.getD i ((0, 0, 0), 0)
theorem flatN_at (l : List Nm) : ∀ i, i < l.length → (flatN l)[i * 4]? = some (.int .i64 (nmAt l i).1.1) ∧ (flatN l)[i * 4 + 1]? = some (.int .i64 (nmAt l i).1.2.1) ∧ (flatN l)[i * 4 + 2]? = some (.int .i64 (nmAt l i).1.2.2) ∧ (flatN l)[i * 4 + 3]? = some (.int .i64 (nmAt l i).2) := by
  induction l with
  | nil => intro i hi; cases hi
  | cons o r ih =>
    intro i hi
    cases i with
    | zero => exact ⟨rfl, rfl, rfl, rfl⟩
    | succ i =>
      have := ih i (by simpa using hi)
      rw [show (i + 1) * 4 = i * 4 + 4 by omega]
      simpa [flatN, nmAt] using this
/-- Names lie in memory, four numbers each. -/
def NamesAt (w : World) (b off : Nat) (l : List Nm) : Prop :=
  ∀ i, i < l.length → w.cell? ⟨b, off + i * 4, none⟩ = some (.int .i64 (nmAt l i).1.1) ∧ w.cell? ⟨b, off + i * 4 + 1, none⟩ = some (.int .i64 (nmAt l i).1.2.1) ∧ w.cell? ⟨b, off + i * 4 + 2, none⟩ = some (.int .i64 (nmAt l i).1.2.2) ∧ w.cell? ⟨b, off + i * 4 + 3, none⟩ = some (.int .i64 (nmAt l i).2)
theorem NamesAt.below {w w1 : World} {b off B : Nat} {l : List Nm} (h : NamesAt w b off l) (hb : Below B w w1) (hB : b < B ∨ l = []) : NamesAt w1 b off l := by
  intro i hi
  have hB' : b < B := by
    rcases hB with h | h
    · exact h
    · subst h; cases hi
  rw [hb.cell (p := ⟨b, off + i * 4, none⟩) hB', hb.cell (p := ⟨b, off + i * 4 + 1, none⟩) hB', hb.cell (p := ⟨b, off + i * 4 + 2, none⟩) hB', hb.cell (p := ⟨b, off + i * 4 + 3, none⟩) hB']
  exact h i hi
/-- A slice value that holds names. -/
def IsNames (w : World) (v : Value) (l : List Nm) : Prop :=
  ∃ (ad : Option Addr) (b off cap : Nat), v = .slice ad l.length cap ∧ (0 < l.length → ad = some ⟨b, off, none⟩) ∧ (b < w.heap.size ∨ l = []) ∧ NamesAt w b off l
theorem isNames_own {w : World} {base e n : Nat} {v : Value} {l : List Nm} (h : w.ownsRow base e 4 v n (flatN l)) (hl : l.length = n) : IsNames w v l := by
  have h' := h
  obtain ⟨_, ⟨hv, hd⟩ | ⟨g, cap, cur, hv, hb, hg, hn, hm, hsz, htk⟩⟩ := h'
  · have : l = [] := List.length_eq_zero_iff.1 (by omega)
    subst this
    rw [hv]
    exact ⟨none, 0, 0, 0, rfl, fun h => absurd h (by simp), .inr rfl, fun i hi => by simp at hi⟩
  · have hc : ∀ j u, (flatN l)[j]? = some u → w.cell? ⟨g, 0 + j, none⟩ = some u := fun j u hj => by
      have := h.cells (g := g) (by rw [hv]; rfl) j u hj
      rw [Addr.add_lit] at this
      exact this
    refine ⟨some ⟨g, 0, none⟩, g, 0, cap, by rw [hl]; exact hv, fun _ => rfl, .inl (h.lt g (by rw [hv]; rfl)).2, fun i hi => ?_⟩
    obtain ⟨h0, h1, h2, h3⟩ := flatN_at l i hi
    exact ⟨hc _ _ h0, by rw [Nat.add_assoc]; exact hc _ _ h1, by rw [Nat.add_assoc]; exact hc _ _ h2, by rw [Nat.add_assoc]; exact hc _ _ h3⟩
theorem infoName : (Try.prog.info? 106).map (fun i => (i.zero, i.size, i.bytes)) = some (some (.agg #[.int .i64 0, .int .i64 0, .int .i64 0, .int .i64 0]), 4, 32) := by kernel_rfl
def namesTo (l : List Op3) (k : Nat) : List Nm := (List.range k).map (nameAt l)
theorem namesTo_len (l : List Op3) (k : Nat) : (namesTo l k).length = k := by simp [namesTo]
theorem namesTo_succ (l : List Op3) (k : Nat) : namesTo l (k + 1) = namesTo l k ++ [nameAt l k] := by
  unfold namesTo
  rw [List.range_succ, List.map_append]; rfl
theorem nmAt_names (l : List Op3) (n k : Nat) (h : k < n) : nmAt (namesTo l n) k = nameAt l k := by
  simp [nmAt, namesTo, List.getD, h]
/-- How often each deal did something so far. -/
def HadAt (w : World) (B : Nat) (l : List Op3) : Prop := ∀ j, j < 7 → w.cell? ⟨B, j, none⟩ = some (.int .i64 (ofL l (j : Nat)).length) ∧ w.frozen? ⟨B, j, none⟩ = false

theorem HadAt.lt {w : World} {B : Nat} {l : List Op3} (h : HadAt w B l) : B < w.heap.size := World.block_lt_of_cell? w _ (h 0 (by omega)).1
theorem had_start (l : List Op3) (w : World) : HadAt (w.alloc (.cells #[.int .i64 0, .int .i64 0, .int .i64 0, .int .i64 0, .int .i64 0, .int .i64 0, .int .i64 0] 81)) w.heap.size (List.take 0 l) := by
  intro j hj
  match j, hj with
  | 0, _ => exact ⟨by simp [ofL], by simp⟩
  | 1, _ => exact ⟨by simp [ofL], by simp⟩
  | 2, _ => exact ⟨by simp [ofL], by simp⟩
  | 3, _ => exact ⟨by simp [ofL], by simp⟩
  | 4, _ => exact ⟨by simp [ofL], by simp⟩
  | 5, _ => exact ⟨by simp [ofL], by simp⟩
  | 6, _ => exact ⟨by simp [ofL], by simp⟩
theorem HadAt.same {w w' : World} {B : Nat} {l : List Op3} (h : HadAt w B l) (hb : w'.heap[B]? = w.heap[B]?) : HadAt w' B l := fun j hj =>
  ⟨(World.cell?_of_block (a := ⟨B, j, none⟩) hb).trans (h j hj).1, (World.frozen?_of_block (a := ⟨B, j, none⟩) hb).trans (h j hj).2⟩
theorem HadAt.step {w : World} {B : Nat} {l : List Op3} {o : Op3} (h : HadAt w B l) (h1 : 1 ≤ o.1) (h6 : o.1 ≤ 6) : HadAt (w.setCell ⟨B, o.1.toNat, none⟩ (.int .i64 ((ofL l o.1).length + 1))) B (l ++ [o]) := by
  intro j hj
  obtain ⟨hc, hf⟩ := h j hj
  obtain ⟨hct, _⟩ := h o.1.toNat (by omega)
  constructor
  · by_cases hjt : j = o.1.toNat
    · subst hjt
      rw [World.cell?_setCell_same _ _ _ hct, show ((o.1.toNat : Nat) : Int) = o.1 by omega, ofL_append, ofL_cons, if_pos rfl]
      simp [ofL]
    · rw [World.cell?_setCell_other _ _ _ _ (by intro he; injection he with _ he2 _; exact hjt he2.symm), hc, ofL_append, ofL_cons, if_neg (by omega)]
      simp [ofL]
  · simpa using hf
theorem own_beside {w : World} {base e s n : Nat} {v : Value} {xs : List Value} (h : w.ownsRow base e s v n xs) {B j : Nat} (hB : B < base) (u : Value) : (w.setCell ⟨B, j, none⟩ u).ownsRow base e s v n xs :=
  h.kept (row := some B) ⟨rfl, rfl, rfl, by simp, fun k _ hk => heap_setCell_other w ⟨B, j, none⟩ k u (fun e => hk (by simp [e]))⟩ (.inr fun he => by have := (h.lt B he).1; omega)
theorem one_name (w : World) (t a x : Int) (m : Nat) : ∀ j u, (flatN [((t, a, x), m)])[j]? = some u → (w.alloc (.cells #[.int .i64 t, .int .i64 a, .int .i64 x, .int .i64 m] 106)).cell? ((⟨w.heap.size, 0, none⟩ : Addr).add j) = some u := by
  intro j u hj
  match j, hj with
  | 0, hj => simp [flatN] at hj; subst hj; simp [Addr.add]
  | 1, hj => simp [flatN] at hj; subst hj; simp [Addr.add]
  | 2, hj => simp [flatN] at hj; subst hj; simp [Addr.add]
  | 3, hj => simp [flatN] at hj; subst hj; simp [Addr.add]
  | k + 4, hj => simp [flatN] at hj

set_option maxHeartbeats 4000000 in
theorem onames_any (l : List Op3) (v : Value) (w : World) (hI : IsOps w v l) (hl : l.length ≤ 40) (hin : ∀ o ∈ l, 1 ≤ o.1 ∧ o.1 ≤ 6) :
    Calls Try.prog 65 #[v] w fun e w' => ∃ v', e = .returned v' ∧ IsNames w' v' (namesTo l l.length) ∧ Below w.heap.size w w' := by
  obtain ⟨ad, b, off, cap, rfl, ha, _, hbB, hops⟩ := hI
  have HO : Hid (∀ W, Below w.heap.size w W → ∀ k, k < l.length → ad = some ⟨b, off, none⟩ ∧ W.cell? ⟨b, off + k * 3, none⟩ = some (.int .i64 (opAt l k).1) ∧ W.cell? ⟨b, off + k * 3 + 1, none⟩ = some (.int .i64 (opAt l k).2.1) ∧ W.cell? ⟨b, off + k * 3 + 2, none⟩ = some (.int .i64 (opAt l k).2.2)) := fun W hW k hk => ⟨ha (by omega), (hops.below hW hbB) k hk⟩
  clear ha hbB hops
  obtain ⟨i0, hi, hz0, hs0, hy0⟩ := info_parts infoName
  have HI : Hid (Try.prog.info? 106 = some i0 ∧ i0.zero = some (.agg #[.int .i64 0, .int .i64 0, .int .i64 0, .int .i64 0]) ∧ i0.size = 4 ∧ i0.bytes = 32) := ⟨hi, hz0, hs0, hy0⟩
  clear hi hz0 hs0 hy0
  go_enter Try.func65, Try.ntmps65
  go_wp2
  go_loopw [4, 9] (fun v4 v9 wr => ∃ k : Nat, k ≤ l.length ∧ v9 = .int .i64 k ∧ wr.ownsRow (w.heap.size + 1) 106 4 v4 k (flatN (namesTo l k)) ∧ HadAt wr w.heap.size (l.take k) ∧ Below w.heap.size w wr) (fun _ v9 _ => l.length - (intOf v9).toNat)
  case atStart => exact ⟨0, Nat.zero_le _, rfl, World.ownsRow_nil _ _ _ _, had_start l w, (Below.refl _ w).alloc (Nat.le_refl _) _⟩
  case round =>
    obtain ⟨k, hk, rfl, hown, hhad, hbel⟩ := hrel
    have hsz := hbel.size
    by_cases hlt : k < l.length
    · obtain ⟨rfl, c0, c1, c2⟩ := HO.out wr hbel k hlt
      obtain ⟨⟨t, a, x⟩, ho⟩ : ∃ o : Op3, opAt l k = o := ⟨_, rfl⟩
      rw [ho] at c0 c1 c2
      have ht := hin (t, a, x) (by rw [← ho]; exact opAt_mem hlt)
      obtain ⟨ht1, ht6⟩ := ht
      simp only at c0 c1 c2 ht1 ht6
      obtain ⟨g0, g1⟩ := hhad t.toNat (by omega)
      rw [show ((t.toNat : Nat) : Int) = t by omega] at g0
      have HT : Hid (l.take (k + 1) = l.take k ++ [(t, a, x)]) := by
        show l.take (k + 1) = l.take k ++ [(t, a, x)]
        rw [List.take_succ_eq_append_getElem hlt, ← ho]; simp [opAt, List.getD, List.getElem?_eq_getElem hlt]
      obtain ⟨m, hm⟩ : ∃ m, (ofL (l.take k) t).length = m := ⟨_, rfl⟩
      rw [hm] at g0
      have HNM : Hid (nameAt l k = ((t, a, x), m)) := by
        show nameAt l k = ((t, a, x), m)
        unfold nameAt nthAt; rw [ho, hm]
      have HM : Hid ((ofL (l.take k) t).length = m) := hm
      have hm40 : m ≤ 40 := by
        rw [← hm]
        have h1 := List.length_filter_le (fun o : Op3 => o.1 == t) (l.take k)
        have h2 : (l.take k).length ≤ k := List.length_take_le _ _
        unfold ofL; omega
      have HHAD : Hid (HadAt wr w.heap.size (l.take k)) := hhad
      have HOWN : Hid (wr.ownsRow (w.heap.size + 1) 106 4 u4 k (flatN (namesTo l k))) := hown
      have hhl := hhad.lt
      clear ho hm hhad hown HO
      go_wp2_with fail
      obtain ⟨W, hW⟩ : ∃ W, W = wr.alloc (.cells #[.int .i64 t, .int .i64 a, .int .i64 x] 24) := ⟨_, rfl⟩
      obtain ⟨P, hP⟩ : ∃ P, P = wr.heap.size := ⟨_, rfl⟩
      have p0 : W.cell? ⟨P, 0, none⟩ = some (.int .i64 t) := by rw [hW, hP]; simp
      have p1 : W.cell? ⟨P, 1, none⟩ = some (.int .i64 a) := by rw [hW, hP]; simp
      have p2 : W.cell? ⟨P, 2, none⟩ = some (.int .i64 x) := by rw [hW, hP]; simp
      have q0 : W.cell? ⟨w.heap.size, t.toNat, none⟩ = some (.int .i64 m) := by rw [hW, World.cell?_alloc_lt _ _ ⟨w.heap.size, t.toNat, none⟩ hhl]; exact g0
      have HOW : Hid (W.ownsRow (w.heap.size + 1) 106 4 u4 k (flatN (namesTo l k))) := by
        show W.ownsRow (w.heap.size + 1) 106 4 u4 k (flatN (namesTo l k))
        rw [hW]; exact HOWN.out.alloc _
      have HHW : Hid (HadAt W w.heap.size (l.take k)) := by
        show HadAt W w.heap.size (l.take k)
        refine HHAD.out.same ?_
        rw [hW]; exact ((Below.refl _ wr).alloc (Nat.le_refl _) _).block _ hhl
      have hbW : Below w.heap.size w W := by rw [hW]; exact hbel.alloc hsz _
      have hPW : P < W.heap.size := World.block_lt_of_cell? W _ p0
      have hPo : ∀ g, u4.ownBlock = some g → g < P := fun g hg => by rw [hP]; exact (HOWN.out.lt g hg).2
      have hWs : w.heap.size < P := by omega
      have HPO : Hid (∀ g, u4.ownBlock = some g → g < P) := hPo
      rw [← hW, ← hP]
      clear hW hP hPo HOWN HHAD g0 g1 c0 c1 c2 hbel
      have hb7 : 0 ≤ t ∧ t < 7 := by omega
      go_region_law (refine step_append_own rfl (.tmp 13) (.tmp 20) 103 rfl (w.heap.size + 1) 106 i0 (.agg #[.int .i64 0, .int .i64 0, .int .i64 0, .int .i64 0]) 4 32 Try.underlying103 HI.out.1 HI.out.2.1 HI.out.2.2.1 HI.out.2.2.2 rfl (by decide) u4 k (flatN (namesTo l k)) (by simp [Act.eval]) (HOW.out.alloc _) ⟨W.heap.size, 0, none⟩ 1 1 (flatN [((t, a, x), m)]) (by simp [Act.eval]) rfl (one_name W t a x m) (flatN_one _) (by unfold maxLen; omega) (by omega) (by simp; omega) ?_; intro v1 w1 hown1 hgr1 hnil1)
      all_goals
        have e0 : w1.cell? ⟨P, 0, none⟩ = some (.int .i64 t) := hgr1.cell (by rw [World.cell?_drew, World.cell?_alloc_lt _ _ ⟨P, 0, none⟩ hPW]; exact p0) (fun he => by have := HPO.out P he.symm; omega)
        have hblk : w1.heap[w.heap.size]? = W.heap[w.heap.size]? := (hgr1.block w.heap.size (by simp; omega) (fun he => by have := (HOW.out.lt _ he.symm).1; omega)).trans (((Below.refl _ W).alloc (Nat.le_refl _) _).block _ (by omega))
        have hh1 : HadAt w1 w.heap.size (l.take k) := HHW.out.same hblk
        obtain ⟨r0, r1⟩ := hh1 t.toNat (by omega)
        rw [show ((t.toNat : Nat) : Int) = t by omega, HM.out] at r0
        have HH1 : Hid (HadAt w1 w.heap.size (l.take k)) := hh1
        have HO1 : Hid (w1.ownsRow (w.heap.size + 1) 106 4 v1 (k + 1) (flatN (namesTo l k) ++ flatN [((t, a, x), m)])) := hown1
        have hB1 := (hbW.alloc hbW.size _).drew.grown hgr1 (by simp; omega) (fun g hg => by have := (HOW.out.lt g hg).1; omega)
        clear hh1 hown1 hblk p0 p1 p2 q0
        go_wp2
        go_roundw
        case rel => exact ⟨k + 1, by omega, by go_num, by rw [namesTo_succ, HNM.out, flatN_append]; exact own_beside HO1.out (by omega) _, by rw [HT.out]; have := HH1.out.step (o := (t, a, x)) ht1 ht6; rw [HM.out] at this; exact this, hB1.setCell (by exact Nat.le_refl _) _⟩
        case measure => simp [intOf]; omega
    · go_wp2
      go_ret
      have hkl : k = l.length := by omega
      subst hkl
      exact ⟨_, rfl, isNames_own hown (namesTo_len _ _), hbel⟩
end Go.Proofs.Ytgnbejemhdcemac

namespace Go.Proofs.Ytgnbejemhdcemac
open Go.RowKit Go.Maps

/-- A name as a map's key. -/
def nmV (n : Nm) : Value := .agg #[.int .i64 n.1.1, .int .i64 n.1.2.1, .int .i64 n.1.2.2, .int .i64 n.2]
def nmL (n : Nm) : Lit := .string (keyBytes [.int .i64 n.1.1, .int .i64 n.1.2.1, .int .i64 n.1.2.2, .int .i64 n.2])
theorem fSize : Try.prog.types.size = 159 := by kernel_rfl
theorem fLaid : laidOutB Try.prog = true := by kernel_rfl
theorem fRow : 106 < Try.prog.types.size := of_decide_eq_true (by kernel_rfl)
theorem fWide : (match Try.prog.underlying 106 with | some (.array _ _) | some (.struct _) => true | _ => false) = true := by kernel_rfl
set_option maxRecDepth 100000 in
theorem fLaw : Keyed Try.prog 106 := Keyed.of_law (deep_law_laid fLaid (m := 3) (by omega) fRow (by kernel_rfl) fWide)
theorem fKey : Try.prog.keyType 106 = true := by kernel_rfl
theorem fCells : Try.prog.cellsOf 106 = 4 := by kernel_rfl
theorem fCellsOp : Try.prog.cellsOf 24 = 3 := by kernel_rfl
theorem fCellsInt : Try.prog.cellsOf 3 = 1 := by kernel_rfl
def Small (n : Nm) : Prop := (Lit.int .i64 n.1.1).wf = true ∧ (Lit.int .i64 n.1.2.1).wf = true ∧ (Lit.int .i64 n.1.2.2).wf = true ∧ (Lit.int .i64 n.2).wf = true
theorem nm_lits (d : Nat) (n : Nm) (h : Small n) : Try.prog.keyLits (d + 3) 106 (nmV n).cells.toList = some [.int .i64 n.1.1, .int .i64 n.1.2.1, .int .i64 n.1.2.2, .int .i64 n.2] := by
  obtain ⟨h0, h1, h2, h3⟩ := h
  simp [Program.keyLits, nmV, Value.cells, h0, h1, h2, h3, fCells, fCellsOp, fCellsInt, Try.underlying106, Try.underlying24, Try.underlying3]
  rw [if_pos]
  · rfl
  · intro i hi
    rcases (show i = 0 ∨ i = 1 ∨ i = 2 by omega) with rfl | rfl | rfl <;> simp
theorem nm_key (n : Nm) (h : Small n) : keyOf Try.prog 106 (nmV n) = some (nmL n) := by
  obtain ⟨d, hd⟩ : ∃ d, Try.prog.types.size + 1 = d + 3 := ⟨159 - 2, by rw [fSize]⟩
  have hl := nm_lits d n h
  unfold keyOf
  rw [Try.underlying106, hd]
  simp only [hl, fKey, Value.formed, Try.underlying106]
  simp [nmV, fCells, nmL]
theorem nm_inj {a b : Nm} (ha : Small a) (hb : Small b) (h : nmL a = nmL b) : a = b := by
  have h1 := fLaw.inj (nm_key a ha) (h ▸ nm_key b hb)
  obtain ⟨⟨a1, a2, a3⟩, a4⟩ := a
  obtain ⟨⟨b1, b2, b3⟩, b4⟩ := b
  simp [nmV] at h1
  obtain ⟨rfl, rfl, rfl, h4⟩ := h1
  have : a4 = b4 := by omega
  rw [this]
theorem wf_small {n : Int} (h0 : 0 ≤ n) (h1 : n ≤ 100) : (Lit.int .i64 n).wf = true := WalkArith.wf_i64 (by omega)
theorem small_name {l : List Op3} {i : Nat} (hl : l.length ≤ 40) (hop : ∀ o ∈ l, isOpB o = true) (hi : i < l.length) : Small (nameAt l i) := by
  have ho := hop _ (opAt_mem hi)
  have hn : nthAt l i ≤ 40 := by
    have h1 := List.length_filter_le (fun o : Op3 => o.1 == (opAt l i).1) (l.take i)
    have h2 : (l.take i).length ≤ i := List.length_take_le _ _
    unfold nthAt ofL; omega
  obtain ⟨⟨t, a, x⟩, hx⟩ : ∃ o, opAt l i = o := ⟨_, rfl⟩
  unfold nameAt Small
  rw [hx] at ho ⊢
  simp [isOpB] at ho
  obtain ⟨⟨⟨⟨h1, h2⟩, h3⟩, h4⟩, h5⟩ := ho
  have hxb : 0 ≤ x ∧ x ≤ 6 := by
    by_cases he : endsB a = true
    · simp [he] at h5; omega
    · simp [he] at h5; omega
  exact ⟨wf_small (by show (0 : Int) ≤ t; omega) (by show t ≤ 100; omega), wf_small (by show (0 : Int) ≤ a; omega) (by show a ≤ 100; omega), wf_small (by show (0 : Int) ≤ x; omega) (by show x ≤ 100; omega), wf_small (by simp) (by simp; omega)⟩
theorem spot_eq {h g : List Op3} {i j : Nat} (hj : j < g.length) (he : nameAt g j = nameAt h i) : spot h g i = j := by
  unfold spot; rw [place_name hj he]; rfl
/-- Names in a world that has grown beside a map. -/
theorem names_cells {w : World} {v : Value} {l : List Nm} {M : Nat} {es : Array MapEntry} {clock n : Nat} (hI : IsNames w v l) (hm : w.heap[M]? = some (.map es clock)) (hn : l.length = n) :
    ∃ (ad : Option Addr) (b off cap : Nat), v = .slice ad n cap ∧ ∀ W, w.grownBy W (some M) → ∀ k, k < n → ad = some ⟨b, off, none⟩ ∧ W.cell? ⟨b, off + k * 4, none⟩ = some (.int .i64 (nmAt l k).1.1) ∧ W.cell? ⟨b, off + k * 4 + 1, none⟩ = some (.int .i64 (nmAt l k).1.2.1) ∧ W.cell? ⟨b, off + k * 4 + 2, none⟩ = some (.int .i64 (nmAt l k).1.2.2) ∧ W.cell? ⟨b, off + k * 4 + 3, none⟩ = some (.int .i64 (nmAt l k).2) := by
  subst hn
  obtain ⟨ad, b, off, cap, hv, ha, _, hat⟩ := hI
  refine ⟨ad, b, off, cap, hv, fun W hW k hk => ?_⟩
  obtain ⟨c0, c1, c2, c3⟩ := hat k hk
  have hne : some b ≠ some M := by
    intro he
    have he := Option.some.inj he
    subst he
    simp [World.cell?, hm] at c0
  exact ⟨ha (by omega), hW.cell c0 hne, hW.cell c1 hne, hW.cell c2 hne, hW.cell c3 hne⟩
theorem map_block {P : Program} {k : TypeId} {R : Value → Option (DataW Unit × List MemPlace)} {w : World} {b n : Nat} {D : DataW Unit} (h : w.ownsMap P k R b n D) : ∃ es clock, w.heap[b]? = some (.map es clock) :=
  let ⟨es, clock, hb, _⟩ := h
  ⟨es, clock, hb⟩
theorem grown_of_below {w W : World} {row : Option Nat} (h : Below w.heap.size w W) : w.grownBy W row := ⟨h.os, h.tape, h.output, h.size, fun k hk _ => h.block k hk⟩
end Go.Proofs.Ytgnbejemhdcemac

namespace Go.Proofs.Ytgnbejemhdcemac
open Go.RowKit Go.Maps

theorem fZero (w : World) : (zeroValue 3).run Try.prog w = .ok (.int .i64 0) w := by kernel_rfl
/-- What the map holds when k names are in. -/
def Places (D : DataW Unit) (g : List Op3) (k : Nat) : Prop :=
  ∀ n : Nm, Small n → (∀ i, i < k → nameAt g i = n → Maps.has D (nmL n) = true ∧ D.atKey (nmL n) (.lit (.int .i64 0)) = .lit (.int .i64 (i : Int))) ∧ ((∀ i, i < k → nameAt g i ≠ n) → Maps.has D (nmL n) = false)
theorem places_start (g : List Op3) : Places (.map []) g 0 := fun n _ => ⟨fun i hi => absurd hi (by omega), fun _ => rfl⟩
theorem places_step {D : DataW Unit} {g : List Op3} {k : Nat} (hm : IsMap D) (hk : k < g.length) (hs : Small (nameAt g k)) (h : Places D g k) : Places (D.put (nmL (nameAt g k)) (.lit (.int .i64 (k : Int)))) g (k + 1) := by
  intro n hn
  by_cases he : nameAt g k = n
  · subst he
    refine ⟨fun i hi hin => ⟨has_put_same hm (fLaw.key (nm_key _ hn)) _, ?_⟩, fun hno => absurd rfl (hno k (by omega))⟩
    rw [atKey_put_same hm (fLaw.key (nm_key _ hn)), name_inj (by omega) hk hin]
  · have hne : nmL n ≠ nmL (nameAt g k) := fun hh => he (nm_inj hs hn hh.symm)
    rw [has_put_other hne, atKey_put_other hne]
    obtain ⟨h1, h2⟩ := h n hn
    refine ⟨fun i hi hin => h1 i ?_ hin, fun hno => h2 fun i hi => hno i (by omega)⟩
    rcases Nat.lt_or_ge i k with h3 | h3
    · exact h3
    · exact absurd (show nameAt g k = n by rw [show k = i by omega]; exact hin) he

theorem find_len (h g : List Op3) (v u : Value) (w : World) (hI : IsOps w v h) (hJ : IsOps w u g) (hne : h.length ≠ g.length) :
    Calls Try.prog 39 #[v, u] w fun e w' => e = .returned (.tuple #[.slice none 0 0, .bool false]) ∧ w' = w := by
  obtain ⟨ad, b, off, cap, rfl, _⟩ := hI
  obtain ⟨ad2, b2, off2, cap2, rfl, _⟩ := hJ
  have hb : (((h.length : Nat) : Int) != ((g.length : Nat) : Int)) = true := by simp; omega
  go_enter Try.func39, Try.ntmps39
  go_wp2
  all_goals first | (exfalso; omega) | skip
  go_ret2
  exact ⟨rfl, rfl⟩
set_option maxHeartbeats 8000000 in
set_option maxRecDepth 100000 in
theorem find_any (h g : List Op3) (v u : Value) (w : World) (hI : IsOps w v h) (hJ : IsOps w u g) (heq : h.length = g.length) (hc : (chk h).2 = 0) (hd : (chk g).2 = 0) :
    Calls Try.prog 39 #[v, u] w fun e w' => ((Named h g ∧ ∃ v', e = .returned (.tuple #[v', .bool true]) ∧ IsInts w' v' ((List.range h.length).map fun i => (spot h g i : Int))) ∨ (¬ Named h g ∧ e = .returned (.tuple #[.slice none 0 0, .bool false]))) ∧ Below w.heap.size w w' := by
  have hl := chk_len hc
  have HI0 : Hid (IsOps w v h) := hI
  have HJ0 : Hid (IsOps w u g) := hJ
  have HSM : Hid ((∀ i, i < h.length → Small (nameAt h i)) ∧ (∀ i, i < g.length → Small (nameAt g i))) := ⟨fun i hi => small_name hl (chk_ops hc) hi, fun i hi => small_name (chk_len hd) (chk_ops hd) hi⟩
  obtain ⟨ad, b, off, cap, rfl, _⟩ := hI
  obtain ⟨ad2, b2, off2, cap2, rfl, _⟩ := hJ
  have hmm := @run_makeMap Try.prog
  obtain ⟨i0, hi, hz0, hs0, hy0⟩ := info_parts infoInt
  have HI : Hid (Try.prog.info? 3 = some i0 ∧ i0.zero = some (.int .i64 0) ∧ i0.size = 1 ∧ i0.bytes = 8) := ⟨hi, hz0, hs0, hy0⟩
  clear hi hz0 hs0 hy0
  have HT : Hid ((∀ o ∈ h, 1 ≤ o.1 ∧ o.1 ≤ 6) ∧ (∀ o ∈ g, 1 ≤ o.1 ∧ o.1 ≤ 6)) := ⟨fun o ho => isOp_tx (chk_ops hc o ho), fun o ho => isOp_tx (chk_ops hd o ho)⟩
  have hl2 := chk_len hd
  obtain ⟨M, hM⟩ : ∃ M, M = w.heap.size := ⟨_, rfl⟩
  have HM : Hid (M = w.heap.size) := hM
  clear hc hd hM
  go_enter Try.func39, Try.ntmps39
  go_wp2_with fail
  rw [← HM.out]
  have hA : Below w.heap.size w (w.alloc (.map #[] 0)) := (Below.refl _ w).alloc (Nat.le_refl _) _
  refine (onames_any g _ _ (HJ0.out.below hA (Nat.le_refl _)) hl2 HT.out.2).mono ?_
  rintro e w1 ⟨v1, rfl, hN1, hb1⟩
  have hmap1 : w1.ownsMap Try.prog 106 (plainElem (H := Unit) Try.prog 3) M 0 (.map []) := by
    have h0 := World.ownsMap_made w Try.prog 106 (plainElem (H := Unit) Try.prog 3)
    rw [← HM.out] at h0
    exact h0.kept (grown_of_below (row := none) hb1) (by simp)
  have hbw1 : Below w.heap.size w w1 := hA.trans (hb1.mono (by simp))
  have hM1 : M < w1.heap.size := hmap1.lt
  have HMAP1 : Hid (w1.ownsMap Try.prog 106 (plainElem (H := Unit) Try.prog 3) M 0 (.map [])) := hmap1
  obtain ⟨es, clock, hes⟩ := map_block hmap1
  obtain ⟨ad3, b3, off3, cap3, rfl, hcel1⟩ := names_cells hN1 hes (namesTo_len g g.length)
  have HC1 : Hid (∀ W, w1.grownBy W (some M) → ∀ k, k < g.length → ad3 = some ⟨b3, off3, none⟩ ∧ W.cell? ⟨b3, off3 + k * 4, none⟩ = some (.int .i64 (nameAt g k).1.1) ∧ W.cell? ⟨b3, off3 + k * 4 + 1, none⟩ = some (.int .i64 (nameAt g k).1.2.1) ∧ W.cell? ⟨b3, off3 + k * 4 + 2, none⟩ = some (.int .i64 (nameAt g k).1.2.2) ∧ W.cell? ⟨b3, off3 + k * 4 + 3, none⟩ = some (.int .i64 (nameAt g k).2)) := fun W hW k hk => by
    have := hcel1 W hW k hk
    rw [nmAt_names g _ k hk] at this
    exact this
  clear hcel1 hN1 hb1 hA hes hmap1
  go_wp2_with fail
  go_loopw [23] (fun v23 wr => ∃ (k : Nat) (D : DataW Unit), k ≤ g.length ∧ v23 = .int .i64 k ∧ wr.ownsMap Try.prog 106 (plainElem (H := Unit) Try.prog 3) M k D ∧ Places D g k ∧ w1.grownBy wr (some M)) (fun v23 _ => g.length - (intOf v23).toNat)
  case atStart => exact ⟨0, _, Nat.zero_le _, rfl, HMAP1.out, places_start g, grown_of_below (Below.refl _ _)⟩
  case round =>
    obtain ⟨k, D, hk, rfl, hown, hpl, hgr⟩ := hrel
    have hgs := hgr.size
    by_cases hlt : k < g.length
    · obtain ⟨rfl, c0, c1, c2, c3⟩ := HC1.out wr hgr k hlt
      have HKEY : Hid (keyOf Try.prog 106 (nmV (nameAt g k)) = some (nmL (nameAt g k))) := nm_key _ (HSM.out.2 k hlt)
      have HPS : Hid (Places (D.put (nmL (nameAt g k)) (.lit (.int .i64 (k : Int)))) g (k + 1)) := places_step hown.isMap hlt (HSM.out.2 k hlt) hpl
      obtain ⟨⟨⟨t, a, x⟩, m⟩, hnm⟩ : ∃ n, nameAt g k = n := ⟨_, rfl⟩
      rw [hnm] at c0 c1 c2 c3
      have HK2 : Hid (keyOf Try.prog 106 (.agg #[.int .i64 t, .int .i64 a, .int .i64 x, .int .i64 m]) = some (nmL ((t, a, x), m))) := by
        have := HKEY.out
        rw [hnm] at this
        exact this
      have HPS2 : Hid (Places (D.put (nmL ((t, a, x), m)) (.lit (.int .i64 (k : Int)))) g (k + 1)) := by
        have := HPS.out
        rw [hnm] at this
        exact this
      have HOWN : Hid (wr.ownsMap Try.prog 106 (plainElem (H := Unit) Try.prog 3) M k D) := hown
      have hwf : (Lit.int .i64 (k : Int)).wf = true := wf_small (by omega) (by omega)
      have HWF : Hid ((Lit.int .i64 (k : Int)).wf = true) := hwf
      clear hnm HKEY HPS hown hpl hwf
      simp only at c0 c1 c2 c3
      go_wp2_with (at_mapUpdate; refine wpList_mapUpdate_own (H := Unit) _ rfl (.tmp 28) (.tmp 29) (.tmp 30) 102 rfl 106 3 fLaw Try.underlying102 (plainElem (H := Unit) Try.prog 3) M k D rfl (HOWN.out.alloc _) (by unfold maxLen; omega) (.agg #[.int .i64 t, .int .i64 a, .int .i64 x, .int .i64 m]) (.int .i64 k) (nmL ((t, a, x), m)) rfl rfl HK2.out (.lit (.int .i64 (k : Int))) [] (plainElem_int Try.underlying3 HWF.out) ?_; intro w2 hown2 hgr2)
      go_roundw
      case rel => exact ⟨k + 1, _, by omega, by go_num, hown2, HPS2.out, (hgr.trans (World.grownBy_alloc _ _ _)).trans hgr2⟩
      case measure => simp [intOf]; omega
    · obtain rfl : k = g.length := by omega
      have hbw2 : Below w.heap.size w wr := ⟨hgr.os.trans hbw1.os, hgr.tape.trans hbw1.tape, hgr.output.trans hbw1.output, Nat.le_trans hbw1.size hgr.size, fun j hj => (hgr.block j (Nat.lt_of_lt_of_le hj hbw1.size) (fun he => by have := Option.some.inj he; have := HM.out; omega)).trans (hbw1.block j hj)⟩
      have HOWN : Hid (wr.ownsMap Try.prog 106 (plainElem (H := Unit) Try.prog 3) M g.length D) := hown
      have HPL : Hid (Places D g g.length) := hpl
      clear hown hpl hgr HMAP1 HC1 hbw1 hgs
      go_wp2_with fail
      have HI1 : Hid (IsOps wr (.slice ad g.length cap) h) := by
        show IsOps wr (.slice ad g.length cap) h
        rw [← heq]
        exact HI0.out.below hbw2 (Nat.le_refl _)
      refine (onames_any h (.slice ad g.length cap) wr HI1.out hl HT.out.1).mono ?_
      rintro e w3 ⟨v3, rfl, hN3, hb3⟩
      have hmap3 : w3.ownsMap Try.prog 106 (plainElem (H := Unit) Try.prog 3) M g.length D := HOWN.out.kept (grown_of_below (row := none) hb3) (by simp)
      have HMAP3 : Hid (w3.ownsMap Try.prog 106 (plainElem (H := Unit) Try.prog 3) M g.length D) := hmap3
      have hbw3 : Below w.heap.size w w3 := hbw2.trans (hb3.mono hbw2.size)
      obtain ⟨es, clock, hes⟩ := map_block hmap3
      obtain ⟨ad4, b4, off4, cap4, rfl, hcel3⟩ := names_cells hN3 hes ((namesTo_len h h.length).trans heq)
      have HC3 : Hid (∀ W, Below w3.heap.size w3 W → ∀ k, k < g.length → ad4 = some ⟨b4, off4, none⟩ ∧ W.cell? ⟨b4, off4 + k * 4, none⟩ = some (.int .i64 (nameAt h k).1.1) ∧ W.cell? ⟨b4, off4 + k * 4 + 1, none⟩ = some (.int .i64 (nameAt h k).1.2.1) ∧ W.cell? ⟨b4, off4 + k * 4 + 2, none⟩ = some (.int .i64 (nameAt h k).1.2.2) ∧ W.cell? ⟨b4, off4 + k * 4 + 3, none⟩ = some (.int .i64 (nameAt h k).2)) := fun W hW k hk => by
        have := hcel3 W (grown_of_below hW) k hk
        rw [nmAt_names h _ k (by omega)] at this
        exact this
      clear hcel3 hN3 hb3 hes HOWN hbw2 hmap3
      go_wp2_with fail
      go_loopw [9, 35] (fun v9 v35 wr => ∃ k : Nat, k ≤ g.length ∧ v35 = .int .i64 k ∧ wr.ownsRow w3.heap.size 3 1 v9 k (((List.range k).map fun i => (spot h g i : Int)).map (Value.int .i64)) ∧ (∀ i, i < k → ∃ j, j < g.length ∧ nameAt g j = nameAt h i) ∧ Below w3.heap.size w3 wr) (fun _ v35 _ => g.length - (intOf v35).toNat)
      case atStart => exact ⟨0, Nat.zero_le _, rfl, World.ownsRow_nil _ _ _ _, fun i hi => absurd hi (by omega), Below.refl _ _⟩
      case round =>
        obtain ⟨k, hk, rfl, hown, hall, hbel⟩ := hrel
        have hsz := hbel.size
        have HALL : Hid (∀ i, i < k → ∃ j, j < g.length ∧ nameAt g j = nameAt h i) := hall
        have HOWN : Hid (wr.ownsRow w3.heap.size 3 1 u9 k (((List.range k).map fun i => (spot h g i : Int)).map (Value.int .i64))) := hown
        clear hall hown
        by_cases hlt : k < g.length
        · obtain ⟨rfl, c0, c1, c2, c3⟩ := HC3.out wr hbel k hlt
          have hsm := HSM.out.1 k (by omega)
          have HPK := HPL.out (nameAt h k) hsm
          have HMAPr : Hid (wr.ownsMap Try.prog 106 (plainElem (H := Unit) Try.prog 3) M g.length D) := HMAP3.out.kept (grown_of_below (row := none) hbel) (by simp)
          obtain ⟨⟨⟨t, a, x⟩, m⟩, hnm⟩ : ∃ n, nameAt h k = n := ⟨_, rfl⟩
          have HNM : Hid (nameAt h k = ((t, a, x), m)) := hnm
          rw [hnm] at c0 c1 c2 c3 HPK hsm
          have HK2 : Hid (keyOf Try.prog 106 (.agg #[.int .i64 t, .int .i64 a, .int .i64 x, .int .i64 m]) = some (nmL ((t, a, x), m))) := nm_key ((t, a, x), m) hsm
          obtain ⟨kl, hkl⟩ : ∃ kl, nmL ((t, a, x), m) = kl := ⟨_, rfl⟩
          rw [hkl] at HPK
          have HK3 : Hid (keyOf Try.prog 106 (.agg #[.int .i64 t, .int .i64 a, .int .i64 x, .int .i64 m]) = some kl) := by rw [← hkl]; exact HK2.out
          clear hnm HK2 hsm hkl
          simp only at c0 c1 c2 c3
          by_cases hex : ∃ j, j < g.length ∧ nameAt g j = ((t, a, x), m)
          · obtain ⟨j, hj, hjn⟩ := hex
            obtain ⟨hhas, hat⟩ := HPK.1 j hj hjn
            have HAT : Hid (D.atKey kl (.lit (.int .i64 0)) = .lit (.int .i64 (j : Int))) := hat
            have HSP : Hid (spot h g k = j) := spot_eq hj (hjn.trans HNM.out.symm)
            have HJN : Hid (nameAt g j = nameAt h k) := hjn.trans HNM.out.symm
            clear HPK hat hjn
            go_upto_region 13 with (fail)
            obtain ⟨W, hW⟩ : ∃ W, W = wr.alloc (.cells #[.int .i64 t, .int .i64 a, .int .i64 x, .int .i64 m] 106) := ⟨_, rfl⟩
            obtain ⟨P, hP⟩ : ∃ P, P = wr.heap.size := ⟨_, rfl⟩
            have p0 : W.cell? ⟨P, 0, none⟩ = some (.int .i64 t) := by rw [hW, hP]; simp
            have p1 : W.cell? ⟨P, 1, none⟩ = some (.int .i64 a) := by rw [hW, hP]; simp
            have p2 : W.cell? ⟨P, 2, none⟩ = some (.int .i64 x) := by rw [hW, hP]; simp
            have p3 : W.cell? ⟨P, 3, none⟩ = some (.int .i64 m) := by rw [hW, hP]; simp
            have HOW : Hid (W.ownsRow w3.heap.size 3 1 u9 k (((List.range k).map fun i => (spot h g i : Int)).map (Value.int .i64))) := by
              show W.ownsRow w3.heap.size 3 1 u9 k (((List.range k).map fun i => (spot h g i : Int)).map (Value.int .i64))
              rw [hW]; exact HOWN.out.alloc _
            have HMW : Hid (W.ownsMap Try.prog 106 (plainElem (H := Unit) Try.prog 3) M g.length D) := by
              show W.ownsMap Try.prog 106 (plainElem (H := Unit) Try.prog 3) M g.length D
              rw [hW]; exact HMAPr.out.alloc _
            have hbW : Below w3.heap.size w3 W := by rw [hW]; exact hbel.alloc hsz _
            have hsW := hbW.size
            rw [← hW, ← hP]
            clear hW hP HOWN HMAPr hbel hsz c0 c1 c2 c3
            go_wp2_with (first | (at_lookup; refine wpList_lookup_own_ok_int _ rfl (.tmp 40) (.tmp 41) 102 rfl 106 3 .i64 fLaw Try.underlying102 Try.underlying3 (fZero _) M g.length D rfl HMW.out (.agg #[.int .i64 t, .int .i64 a, .int .i64 x, .int .i64 m]) kl rfl HK3.out ?_; intro c hat hwc; have HCJ : Hid (c = (j : Int)) := by (rw [HAT.out] at hat; injection hat with h1; injection h1 with _ h2; exact h2.symm)) | (at_builtin; refine wpList_append_own _ rfl (.tmp 47) (.tmp 49) 31 rfl w3.heap.size 3 i0 (.int .i64 0) 1 8 Try.underlying31 HI.out.1 HI.out.2.1 HI.out.2.2.1 HI.out.2.2.2 rfl (by decide) u9 k (((List.range k).map fun i => (spot h g i : Int)).map (Value.int .i64)) rfl (HOW.out.alloc _) ⟨W.heap.size, 0, none⟩ 1 1 [.int .i64 c] rfl rfl (cell_one_new _ _ _) (by simp [Value.oneCell']) (by unfold maxLen; omega) (by omega) (by simp; omega) ?_; intro v1 w4 hown4 hgr4 hnil4))
            have hB4 := (hbW.alloc hsW _).grown hgr4 (by simp; omega) (fun q hq => (HOW.out.lt q hq).1)
            go_roundw
            case rel => exact ⟨k + 1, by omega, by go_num, by rw [List.range_succ, List.map_append, List.map_append]; simp only [List.map_cons, List.map_nil, HSP.out]; rw [← HCJ.out]; exact hown4, fun i hi => (by rcases Nat.lt_or_ge i k with h1 | h1; exact HALL.out i h1; exact ⟨j, hj, by rw [show i = k by omega]; exact HJN.out⟩), hB4⟩
            case measure => simp [intOf]; omega
          · have hhas : Maps.has D kl = false := HPK.2 fun i hi hin => hex ⟨i, hi, hin⟩
            have HNO : Hid (¬ Named h g) := fun hn => hex (by obtain ⟨j, hj, hjn⟩ := hn k (by omega); exact ⟨j, hj, hjn.trans HNM.out⟩)
            clear HPK hex
            go_upto_region 13 with (fail)
            obtain ⟨W, hW⟩ : ∃ W, W = wr.alloc (.cells #[.int .i64 t, .int .i64 a, .int .i64 x, .int .i64 m] 106) := ⟨_, rfl⟩
            obtain ⟨P, hP⟩ : ∃ P, P = wr.heap.size := ⟨_, rfl⟩
            have p0 : W.cell? ⟨P, 0, none⟩ = some (.int .i64 t) := by rw [hW, hP]; simp
            have p1 : W.cell? ⟨P, 1, none⟩ = some (.int .i64 a) := by rw [hW, hP]; simp
            have p2 : W.cell? ⟨P, 2, none⟩ = some (.int .i64 x) := by rw [hW, hP]; simp
            have p3 : W.cell? ⟨P, 3, none⟩ = some (.int .i64 m) := by rw [hW, hP]; simp
            have HOW : Hid (W.ownsRow w3.heap.size 3 1 u9 k (((List.range k).map fun i => (spot h g i : Int)).map (Value.int .i64))) := by
              show W.ownsRow w3.heap.size 3 1 u9 k (((List.range k).map fun i => (spot h g i : Int)).map (Value.int .i64))
              rw [hW]; exact HOWN.out.alloc _
            have HMW : Hid (W.ownsMap Try.prog 106 (plainElem (H := Unit) Try.prog 3) M g.length D) := by
              show W.ownsMap Try.prog 106 (plainElem (H := Unit) Try.prog 3) M g.length D
              rw [hW]; exact HMAPr.out.alloc _
            have hbW : Below w3.heap.size w3 W := by rw [hW]; exact hbel.alloc hsz _
            have hsW := hbW.size
            rw [← hW, ← hP]
            clear hW hP HOWN HMAPr hbel hsz c0 c1 c2 c3
            go_wp2_with (at_lookup; refine wpList_lookup_own_ok_int _ rfl (.tmp 40) (.tmp 41) 102 rfl 106 3 .i64 fLaw Try.underlying102 Try.underlying3 (fZero _) M g.length D rfl HMW.out (.agg #[.int .i64 t, .int .i64 a, .int .i64 x, .int .i64 m]) kl rfl HK3.out ?_; intro c hat hwc)
            go_ret2
            exact ⟨.inr ⟨HNO.out, rfl⟩, hbw3.trans (hbW.mono hbw3.size)⟩
        · obtain rfl : k = g.length := by omega
          go_wp2
          go_ret2
          refine ⟨.inl ⟨fun i hi => HALL.out i (by omega), _, rfl, ?_⟩, hbw3.trans (hbel.mono hbw3.size)⟩
          rw [heq]
          exact isInts_own HOWN.out (by simp)
end Go.Proofs.Ytgnbejemhdcemac
