/-
  PROVED HERE: package play's board in a block of memory (what the items are, how many ops each deal had, all that each has read, what was read in order), and its method play: it goes on by one op. Memory below the board stays as it was.
  Conditions: the op is the next one of a short list of ops.
  PROVED HERE: play.Values and play.Seen answer what a right list comes to (valsL, seenTo of what is done), and history.Check's error at a wrong one. Old memory stays as it was.
  Conditions: none.
  (Of these, what the claim wants: the rest was left out.)
  PROVED HERE: how a list of ops among the arguments of the laws reads, out of its data.
  Conditions: none of this text's own.
-/
import Derived.Test.YtmjjiehnjghndaaGreatMgav
import Derived.Test.YtmjjiehnjghndaaGreatMgad
import Derived.Test.YtmjjiehnjghndaaGreatMgae
import Derived.Test.YtmjjiehnjghndaaGreatMgan
import Derived.Laws.Rows
import Derived.OwnWalk
import Derived.Deep.Cut
import Derived.Maps.AppendAt
import Derived.Test.YtmjjiehnjghndaaGreatMgaw
import Derived.Test.YtmjjiehnjghndaaGreatMgaz
import Derived.Test.YtmjjiehnjghndaaGreatMgaf
import Derived.Laws.CopyOwn
import Derived.Test.YtmjjiehnjghndaaGreatChecked
import Derived.ProofKit
import Derived.OpenShut
import Derived.ChangeSame
import Derived.ChangeVars
import Derived.JoinedOf
import Derived.LaidLaws
import Derived.LaidHandle
import Derived.Stop.Joined
import Derived.Deep.Slices
import Derived.Deep.Strs
import Derived.Lib.SmallJoins
import Derived.SizedLaws
namespace Go.Proofs.YtmjjiehnjghndaaGreat
open Go.RowKit

def bPart (F C S : Nat → Int) (sv : Value) (k : Nat) : Value := if k < 7 then .int .i64 (F k) else if k < 14 then .int .i64 (C (k - 7)) else if k < 21 then .int .i64 (S (k - 14)) else sv
def cells22 (F C S : Nat → Int) (sv : Value) : Array Value := ((List.range 22).map (bPart F C S sv)).toArray
theorem cells22_size (F C S : Nat → Int) (sv : Value) : (cells22 F C S sv).size = 22 := by simp [cells22]
theorem cells22_at (F C S : Nat → Int) (sv : Value) (k : Nat) (h : k < 22) : (cells22 F C S sv)[k]? = some (bPart F C S sv k) := by simp [cells22, h]
def setN7 (f : Nat → Int) (m : Nat) (x : Int) : Nat → Int := fun j => if j = m then x else f j
theorem cells22_ext {F C S F' C' S' : Nat → Int} {sv sv' u : Value} {p : Nat} (hp : p < 22) (hh : bPart F' C' S' sv' p = u) (he : ∀ k, k < 22 → k ≠ p → bPart F' C' S' sv' k = bPart F C S sv k) : (cells22 F C S sv).setIfInBounds p u = cells22 F' C' S' sv' := by
  refine Array.ext_getElem? fun j => ?_
  by_cases hj : j < 22
  · rw [cells22_at _ _ _ _ j hj, Array.getElem?_setIfInBounds, cells22_size, cells22_at _ _ _ _ j hj]
    by_cases e : p = j
    · subst e; rw [if_pos rfl, if_pos hp, hh]
    · rw [if_neg e, he j hj (fun h => e h.symm)]
  · rw [Array.getElem?_eq_none (by simp [cells22_size]; omega), Array.getElem?_eq_none (by simp [cells22_size]; omega)]
theorem cells22_item (F C S : Nat → Int) (sv : Value) {m : Nat} (hm : m < 7) (x : Int) : (cells22 F C S sv).setIfInBounds m (.int .i64 x) = cells22 (setN7 F m x) C S sv := by
  refine cells22_ext (by omega) (by simp [bPart, setN7, hm]) fun k hk hne => ?_
  unfold bPart setN7
  rw [if_neg hne]
theorem cells22_count (F C S : Nat → Int) (sv : Value) {m : Nat} (hm : m < 7) (x : Int) : (cells22 F C S sv).setIfInBounds (7 + m) (.int .i64 x) = cells22 F (setN7 C m x) S sv := by
  refine cells22_ext (by omega) ?_ fun k hk hne => ?_
  · unfold bPart setN7
    rw [if_neg (by omega), if_pos (by omega), if_pos (by omega)]
  · unfold bPart setN7
    by_cases h7 : k < 7
    · rw [if_pos h7, if_pos h7]
    · rw [if_neg h7, if_neg h7, if_neg (show ¬ k - 7 = m by omega)]
theorem cells22_sum (F C S : Nat → Int) (sv : Value) {m : Nat} (hm : m < 7) (x : Int) : (cells22 F C S sv).setIfInBounds (14 + m) (.int .i64 x) = cells22 F C (setN7 S m x) sv := by
  refine cells22_ext (by omega) ?_ fun k hk hne => ?_
  · unfold bPart setN7
    rw [if_neg (by omega), if_neg (by omega), if_pos (by omega), if_pos (by omega)]
  · unfold bPart setN7
    by_cases h7 : k < 14
    · by_cases h8 : k < 7
      · rw [if_pos h8, if_pos h8]
      · rw [if_neg h8, if_neg h8, if_pos h7, if_pos h7]
    · have h8 : ¬ k < 7 := by omega
      rw [if_neg h8, if_neg h8, if_neg h7, if_neg h7, if_neg (show ¬ k - 14 = m by omega)]
theorem cells22_seen (F C S : Nat → Int) (sv u : Value) : (cells22 F C S sv).setIfInBounds 21 u = cells22 F C S u := by
  refine cells22_ext (by omega) (by unfold bPart; rw [if_neg (by omega), if_neg (by omega), if_neg (by omega)]) fun k hk hne => ?_
  unfold bPart
  by_cases h1 : k < 7
  · rw [if_pos h1, if_pos h1]
  · by_cases h2 : k < 14
    · rw [if_neg h1, if_neg h1, if_pos h2, if_pos h2]
    · rw [if_neg h1, if_neg h1, if_neg h2, if_neg h2, if_pos (by omega), if_pos (by omega)]
/-- The board in a block. -/
def BoardAt (w : World) (B : Nat) (F C S : Nat → Int) (sv : Value) : Prop := w.heap[B]? = some (.cells (cells22 F C S sv) 66 (0, 0))
theorem BoardAt.lt {w : World} {B : Nat} {F C S : Nat → Int} {sv : Value} (h : BoardAt w B F C S sv) : B < w.heap.size := by
  have h' : w.heap[B]? = some _ := h
  exact (Array.getElem?_eq_some_iff.1 h').1
theorem BoardAt.cell {w : World} {B : Nat} {F C S : Nat → Int} {sv : Value} (h : BoardAt w B F C S sv) {k : Nat} (hk : k < 22) : w.cell? ⟨B, k, none⟩ = some (bPart F C S sv k) := by
  rw [cell_of_row w B _ _ _ _ h, cells22_at _ _ _ _ k hk]
theorem BoardAt.item {w : World} {B : Nat} {F C S : Nat → Int} {sv : Value} (h : BoardAt w B F C S sv) {k : Nat} (hk : k < 7) : w.cell? ⟨B, k, none⟩ = some (.int .i64 (F k)) := by
  rw [h.cell (by omega)]; unfold bPart; rw [if_pos hk]
theorem BoardAt.count {w : World} {B : Nat} {F C S : Nat → Int} {sv : Value} (h : BoardAt w B F C S sv) {k : Nat} (hk : k < 7) : w.cell? ⟨B, 7 + k, none⟩ = some (.int .i64 (C k)) := by
  rw [h.cell (by omega)]; unfold bPart; rw [if_neg (by omega), if_pos (by omega), show 7 + k - 7 = k by omega]
theorem BoardAt.sum {w : World} {B : Nat} {F C S : Nat → Int} {sv : Value} (h : BoardAt w B F C S sv) {k : Nat} (hk : k < 7) : w.cell? ⟨B, 14 + k, none⟩ = some (.int .i64 (S k)) := by
  rw [h.cell (by omega)]; unfold bPart; rw [if_neg (by omega), if_neg (by omega), if_pos (by omega), show 14 + k - 14 = k by omega]
theorem BoardAt.seen {w : World} {B : Nat} {F C S : Nat → Int} {sv : Value} (h : BoardAt w B F C S sv) : w.cell? ⟨B, 21, none⟩ = some sv := by
  rw [h.cell (by omega)]; unfold bPart; rw [if_neg (by omega), if_neg (by omega), if_neg (by omega)]
theorem BoardAt.thaw {w : World} {B : Nat} {F C S : Nat → Int} {sv : Value} (h : BoardAt w B F C S sv) (k : Nat) : w.frozen? ⟨B, k, none⟩ = false := by
  have h' : w.heap[B]? = some _ := h
  simp [World.frozen?, h']
theorem BoardAt.same {w w' : World} {B : Nat} {F C S : Nat → Int} {sv : Value} (h : BoardAt w B F C S sv) (hb : w'.heap[B]? = w.heap[B]?) : BoardAt w' B F C S sv := hb.trans h
theorem BoardAt.below {w w1 : World} {B n : Nat} {F C S : Nat → Int} {sv : Value} (h : BoardAt w B F C S sv) (hb : Below n w w1) (hB : B < n) : BoardAt w1 B F C S sv := (hb.block B hB).trans h
theorem BoardAt.setItem {w : World} {B : Nat} {F C S : Nat → Int} {sv : Value} (h : BoardAt w B F C S sv) {m : Nat} (hm : m < 7) (x : Int) : BoardAt (w.setCell ⟨B, m, none⟩ (.int .i64 x)) B (setN7 F m x) C S sv := by
  have h' : w.heap[B]? = some (.cells (cells22 F C S sv) 66 (0, 0)) := h
  unfold BoardAt World.setCell
  simp [Array.getElem?_modify, h', cells22_item F C S sv hm x]
theorem BoardAt.setCount {w : World} {B : Nat} {F C S : Nat → Int} {sv : Value} (h : BoardAt w B F C S sv) {m : Nat} (hm : m < 7) (x : Int) : BoardAt (w.setCell ⟨B, 7 + m, none⟩ (.int .i64 x)) B F (setN7 C m x) S sv := by
  have h' : w.heap[B]? = some (.cells (cells22 F C S sv) 66 (0, 0)) := h
  unfold BoardAt World.setCell
  simp [Array.getElem?_modify, h', cells22_count F C S sv hm x]
theorem BoardAt.setSum {w : World} {B : Nat} {F C S : Nat → Int} {sv : Value} (h : BoardAt w B F C S sv) {m : Nat} (hm : m < 7) (x : Int) : BoardAt (w.setCell ⟨B, 14 + m, none⟩ (.int .i64 x)) B F C (setN7 S m x) sv := by
  have h' : w.heap[B]? = some (.cells (cells22 F C S sv) 66 (0, 0)) := h
  unfold BoardAt World.setCell
  simp [Array.getElem?_modify, h', cells22_sum F C S sv hm x]
theorem BoardAt.setSeen {w : World} {B : Nat} {F C S : Nat → Int} {sv : Value} (h : BoardAt w B F C S sv) (u : Value) : BoardAt (w.setCell ⟨B, 21, none⟩ u) B F C S u := by
  have h' : w.heap[B]? = some (.cells (cells22 F C S sv) 66 (0, 0)) := h
  unfold BoardAt World.setCell
  simp [Array.getElem?_modify, h', cells22_seen F C S sv u]
theorem board_box (w : World) (F C S : Nat → Int) (sv : Value) : BoardAt (w.alloc (.cells (cells22 F C S sv) 66)) w.heap.size F C S sv := by
  unfold BoardAt World.alloc
  simp
theorem board_info : (Tryz.prog.info? 66).map (·.size) = some 22 := by kernel_rfl
theorem board_info' (F C S : Nat → Int) (sv : Value) : (Tryz.prog.info? 66).map (·.size) = some (cells22 F C S sv).size := by rw [cells22_size]; exact board_info

def cntB (d : List Op3) (k : Nat) : Nat → Int := fun j => ((ofL (d.take k) (j : Int)).length : Int)
def sumB (d : List Op3) (k : Nat) : Nat → Int := fun j => sumTo d k (j : Int)
def itB (d : List Op3) (k : Nat) : Nat → Int := fun j => valTo d k (j : Int)
theorem cntB_step {d : List Op3} {k t : Nat} (hk : k < d.length) (ht : (opAt d k).1 = (t : Int)) : cntB d (k + 1) = setN7 (cntB d k) t (cntB d k t + 1) := by
  funext j
  unfold cntB setN7
  rw [ofL_take_succ hk, ht]
  by_cases e : j = t
  · subst e; rw [if_pos rfl, if_pos rfl]; omega
  · rw [if_neg (by omega), if_neg e]; rfl
theorem sumB_read {d : List Op3} {k t : Nat} (h1 : (opAt d k).2.1 = 1) (ht : (opAt d k).1 = (t : Int)) : sumB d (k + 1) = setN7 (sumB d k) t (sumB d k t + readV d k) := by
  funext j
  unfold sumB setN7
  by_cases e : j = t
  · subst e; rw [if_pos rfl, sumTo_hit h1 ht]
  · rw [if_neg e, sumTo_pass (by rw [ht]; omega)]
theorem sumB_pass {d : List Op3} {k : Nat} (h1 : (opAt d k).2.1 ≠ 1) : sumB d (k + 1) = sumB d k := by
  funext j
  unfold sumB
  rw [sumTo_pass fun hh => h1 hh.1]
theorem itB_write {d : List Op3} {k m : Nat} (h1 : (opAt d k).2.1 = 2) (hm : (opAt d k).2.2 = (m : Int)) : itB d (k + 1) = setN7 (itB d k) m (wrote d k) := by
  funext j
  unfold itB setN7
  by_cases e : j = m
  · subst e; rw [if_pos rfl, valTo_hit h1 hm]
  · rw [if_neg e, valTo_pass (by omega)]
theorem itB_pass {d : List Op3} {k : Nat} (h1 : (opAt d k).2.1 ≠ 2) : itB d (k + 1) = itB d k := by
  funext j
  unfold itB
  rw [valTo_pass fun hh => h1 hh.1]
theorem own_parts3 {w : World} {base e size n : Nat} {v : Value} {xs : List Value} (h : w.ownsRow base e size v n xs) : ∃ ad m c, v = .slice ad m c := by
  obtain ⟨_, ⟨hv, _⟩ | ⟨g, c, cur, hv, _⟩⟩ := h
  · exact ⟨_, _, _, hv⟩
  · exact ⟨_, _, _, hv⟩
theorem BoardAt.grown {w w2 : World} {B e size n : Nat} {F C S : Nat → Int} {sv v : Value} {xs : List Value} {o : Obj} (h : BoardAt w B F C S sv) (hown : w.ownsRow (B + 1) e size v n xs) (hgr : (w.drew.alloc o).grownBy w2 v.ownBlock) : BoardAt w2 B F C S sv := by
  have hl := h.lt
  refine h.same ((hgr.block B (by simp; omega) (fun he => ?_)).trans (((Below.refl _ w).alloc (Nat.le_refl _) _).block _ hl))
  have := (hown.lt _ he.symm).1
  omega
/-- The board behind the first k ops. -/
def Played (w : World) (B : Nat) (d : List Op3) (k : Nat) : Prop := ∃ sv : Value, BoardAt w B (itB d k) (cntB d k) (sumB d k) sv ∧ w.ownsRow (B + 1) 3 1 sv (seenTo d k).length ((seenTo d k).map (Value.int .i64))

set_option maxHeartbeats 16000000 in
set_option maxRecDepth 100000 in
theorem bplay_any (d : List Op3) (k : Nat) (B : Nat) (t a x : Int) (w : World) (hP : Played w B d k) (hk : k < d.length) (hl : d.length ≤ 40) (ho : opAt d k = (t, a, x)) (hop : isOpB (t, a, x) = true) :
    Calls Tryz.prog 54 #[.pointer (some ⟨B, 0, none⟩), .agg #[.int .i64 t, .int .i64 a, .int .i64 x]] w fun e w' => e = .returned (.tuple #[]) ∧ Played w' B d (k + 1) ∧ Below B w w' := by
  obtain ⟨ht1, ht6⟩ := isOp_deal hop
  simp only at ht1 ht6
  obtain ⟨tn, rfl⟩ : ∃ n : Nat, t = n := ⟨t.toNat, by omega⟩
  have HO : Hid (opAt d k = ((tn : Int), a, x)) := ho
  have HIS : Hid (isOpB ((tn : Int), a, x) = true) := hop
  clear ho hop
  have ht7 : (tn : Int) < 7 := by omega
  obtain ⟨cn, hcn⟩ : ∃ cn : Nat, (ofL (d.take k) (tn : Int)).length = cn := ⟨_, rfl⟩
  have hcn40 : cn ≤ 40 := by
    rw [← hcn]
    have h1 := List.length_filter_le (fun o : Op3 => o.1 == (tn : Int)) (d.take k)
    have h2 : (d.take k).length ≤ k := List.length_take_le _ _
    unfold ofL; omega
  have HCN : Hid (cntB d k tn = cn ∧ nthAt d k = cn) := ⟨by unfold cntB; rw [hcn], by unfold nthAt; rw [HO.out]; exact hcn⟩
  clear hcn
  obtain ⟨sv, hBA, hown⟩ := hP
  obtain ⟨n1, hn1⟩ : ∃ n1, (seenTo d k).length = n1 := ⟨_, rfl⟩
  have hn1b : n1 ≤ 40 := by rw [← hn1]; have := seenTo_len d k; omega
  have HN1 : Hid ((seenTo d k).length = n1) := hn1
  rw [hn1] at hown
  obtain ⟨i0, hi, hz0, hs0, hy0⟩ := info_parts infoInt
  have HI : Hid (Tryz.prog.info? 3 = some i0 ∧ i0.zero = some (.int .i64 0) ∧ i0.size = 1 ∧ i0.bytes = 8) := ⟨hi, hz0, hs0, hy0⟩
  clear hn1 hi hz0 hs0 hy0
  obtain ⟨ad, len, cap, rfl⟩ := own_parts3 hown
  have hBl := hBA.lt
  go_enter Tryz.func54, Tryz.ntmps54
  go_upto_region 1 with (fail)
  obtain ⟨W, hW⟩ : ∃ W, W = w.alloc (.cells #[.int .i64 tn, .int .i64 a, .int .i64 x] 38) := ⟨_, rfl⟩
  rw [← hW]
  obtain ⟨P, hP⟩ : ∃ P, P = w.heap.size := ⟨_, rfl⟩
  rw [← hP]
  have hbW : Below w.heap.size w W := by rw [hW]; exact (Below.refl _ w).alloc (Nat.le_refl _) _
  have p0 : W.cell? ⟨P, 0, none⟩ = some (.int .i64 tn) := by rw [hW, hP]; simp
  have p1 : W.cell? ⟨P, 1, none⟩ = some (.int .i64 a) := by rw [hW, hP]; simp
  have p2 : W.cell? ⟨P, 2, none⟩ = some (.int .i64 x) := by rw [hW, hP]; simp
  have HBA : Hid (BoardAt W B (itB d k) (cntB d k) (sumB d k) (.slice ad len cap)) := hBA.below hbW hBl
  have HOW : Hid (W.ownsRow (B + 1) 3 1 (.slice ad len cap) n1 ((seenTo d k).map (Value.int .i64))) := own_below hown hbW (Nat.le_refl _)
  have HPO : Hid (∀ q, (Value.slice ad len cap).ownBlock = some q → q < P) := fun q hq => by rw [hP]; exact (hown.lt q hq).2
  have HBW : Hid (Below B w W) := hbW.mono (by omega)
  have hPB : B < P := by omega
  have hPW : P < W.heap.size := World.block_lt_of_cell? W _ p0
  clear hW hP hbW hBA hown hBl
  have q0 := HBA.out.count (k := tn) (by omega)
  have z0 := HBA.out.thaw (7 + tn)
  rw [HCN.out.1] at q0
  have hBP : ¬ B = P := by omega
  have hPB' : ¬ P = B := by omega
  go_region
  have HBV : Hid (BoardAt (W.setCell ⟨B, 7 + tn, none⟩ (.int .i64 ((cn : Int) + 1))).drew B (itB d k) (cntB d (k + 1)) (sumB d k) (.slice ad len cap)) := by
    show BoardAt (W.setCell ⟨B, 7 + tn, none⟩ (.int .i64 ((cn : Int) + 1))) B _ _ _ _
    rw [cntB_step hk (by rw [HO.out]), HCN.out.1]
    exact HBA.out.setCount (by omega) _
  have HOV : Hid ((W.setCell ⟨B, 7 + tn, none⟩ (.int .i64 ((cn : Int) + 1))).drew.ownsRow (B + 1) 3 1 (.slice ad len cap) n1 ((seenTo d k).map (Value.int .i64))) := ownsRow_setCell_below HOW.out (by show B < B + 1; omega) _
  have HWV : Hid (Below B w (W.setCell ⟨B, 7 + tn, none⟩ (.int .i64 ((cn : Int) + 1))).drew) := (HBW.out.setCell (by exact Nat.le_refl _) _).drew
  obtain ⟨V, hV⟩ : ∃ V, V = (W.setCell ⟨B, 7 + tn, none⟩ (.int .i64 ((cn : Int) + 1))).drew := ⟨_, rfl⟩
  rw [← hV] at HBV HOV HWV ⊢
  have s0 : V.cell? ⟨P, 0, none⟩ = some (.int .i64 tn) := by rw [hV, World.cell?_drew, World.cell?_setCell_other _ _ _ _ (by intro he; injection he with h1; exact hBP h1)]; exact p0
  have s1 : V.cell? ⟨P, 1, none⟩ = some (.int .i64 a) := by rw [hV, World.cell?_drew, World.cell?_setCell_other _ _ _ _ (by intro he; injection he with h1; exact hBP h1)]; exact p1
  have s2 : V.cell? ⟨P, 2, none⟩ = some (.int .i64 x) := by rw [hV, World.cell?_drew, World.cell?_setCell_other _ _ _ _ (by intro he; injection he with h1; exact hBP h1)]; exact p2
  clear hV p0 p1 p2 q0 z0 HBA HOW HBW hPW
  have hPV : P < V.heap.size := World.block_lt_of_cell? V _ s0
  by_cases ha1 : a = 1
  · subst ha1
    obtain ⟨hx1, hx6⟩ := isOp_item HIS.out (.inl rfl)
    simp only at hx1 hx6
    obtain ⟨m, rfl⟩ : ∃ m : Nat, x = (m : Int) := ⟨x.toNat, by omega⟩
    have hm7 : (m : Int) < 7 := by omega
    obtain ⟨vx, hvx⟩ : ∃ vx, readV d k = vx := ⟨_, rfl⟩
    have hvv : itB d k m = vx := by rw [← hvx]; unfold itB readV; rw [HO.out]
    have f0 := HBV.out.item (k := m) (by omega)
    rw [hvv] at f0
    have f1 := HBV.out.seen
    have hBV := HBV.out.lt
    have f2 : ∀ o : Obj, (V.alloc o).cell? ⟨B, 21, none⟩ = some (.slice ad len cap) := fun o => by rw [World.cell?_alloc_lt _ _ ⟨B, 21, none⟩ hBV]; exact f1
    have hvb : 0 ≤ vx ∧ vx < 1000003 := by rw [← hvx]; exact valTo_bound d k _
    obtain ⟨sm, hsm⟩ : ∃ sm, sumB d k tn = sm := ⟨_, rfl⟩
    have hsb := sumTo_bound d (tn : Int) k
    have hsm1 : 0 ≤ sm ∧ sm ≤ 40000120 := by
      have : sumTo d k (tn : Int) = sm := hsm
      omega
    obtain ⟨hsm0, hsm2⟩ := hsm1
    obtain ⟨hv0, hv2⟩ := hvb
    have HSV : Hid (sumB d k tn = sm ∧ readV d k = vx ∧ itB d k m = vx) := ⟨hsm, hvx, hvv⟩
    have HN : Hid (seenTo d (k + 1) = seenTo d k ++ [vx]) := by show seenTo d (k + 1) = _; rw [seenTo, HO.out, if_pos rfl, hvx]
    clear hsb hsm hvx hvv
    go_upto_region 4 with (fail)
    go_region_law (refine step_append_own rfl (.tmp 23) (.tmp 31) 28 rfl (B + 1) 3 i0 (.int .i64 0) 1 8 Tryz.underlying28 HI.out.1 HI.out.2.1 HI.out.2.2.1 HI.out.2.2.2 rfl (by decide) (.slice ad len cap) n1 ((seenTo d k).map (Value.int .i64)) (by simp [Act.eval]) (HOV.out.alloc _) ⟨V.heap.size, 0, none⟩ 1 1 [.int .i64 vx] (by simp [Act.eval]) rfl (cell_one_new _ _ _) (by simp [Value.oneCell']) (by unfold maxLen; omega) (by omega) (by simp; omega) ?_; intro v2 w2 hown2 hgr2 hnil2; clear hnil2; obtain ⟨ad2, n2, cap2, rfl⟩ := own_parts3 hown2; have HB2 : Hid (BoardAt w2 B (itB d k) (cntB d (k + 1)) (sumB d k) (.slice ad len cap)) := HBV.out.grown HOV.out hgr2; have HO2 : Hid (w2.ownsRow (B + 1) 3 1 (.slice ad2 n2 cap2) (n1 + 1) ((seenTo d k).map (Value.int .i64) ++ [.int .i64 vx])) := hown2; have HG2 : Hid ((V.drew.alloc (.cells #[.int .i64 vx] 3)).grownBy w2 (Value.slice ad len cap).ownBlock) := hgr2; clear hown2 hgr2; have g1 := HB2.out.seen; have g2 := HB2.out.thaw 21)
    all_goals
      have HB3 : Hid (BoardAt (w2.setCell ⟨B, 21, none⟩ (.slice ad2 n2 cap2)) B (itB d (k + 1)) (cntB d (k + 1)) (sumB d k) (.slice ad2 n2 cap2)) := by
        rw [itB_pass (by rw [HO.out]; show (1 : Int) ≠ 2; decide)]
        exact HB2.out.setSeen _
      have HO3 : Hid ((w2.setCell ⟨B, 21, none⟩ (.slice ad2 n2 cap2)).ownsRow (B + 1) 3 1 (.slice ad2 n2 cap2) (n1 + 1) ((seenTo d k).map (Value.int .i64) ++ [.int .i64 vx])) := ownsRow_setCell_below HO2.out (by show B < B + 1; omega) _
      have HW3 : Hid (Below B w (w2.setCell ⟨B, 21, none⟩ (.slice ad2 n2 cap2))) := (((HWV.out.drew.alloc (by have := HWV.out.size; simp; omega) _).grown HG2.out (by simp; omega) (fun q hq => by have := (HOV.out.lt q hq).1; omega)).setCell (by exact Nat.le_refl _) _)
      have r0 : (w2.setCell ⟨B, 21, none⟩ (.slice ad2 n2 cap2)).cell? ⟨P, 0, none⟩ = some (.int .i64 tn) := by
        rw [World.cell?_setCell_other _ _ _ _ (by intro he; injection he with h1; exact hBP h1)]
        exact HG2.out.cell ((World.cell?_alloc_lt V.drew _ ⟨P, 0, none⟩ hPV).trans s0) (fun he => by have := HPO.out P he.symm; omega)
      have r2 : (w2.setCell ⟨B, 21, none⟩ (.slice ad2 n2 cap2)).cell? ⟨P, 2, none⟩ = some (.int .i64 m) := by
        rw [World.cell?_setCell_other _ _ _ _ (by intro he; injection he with h1; exact hBP h1)]
        exact HG2.out.cell ((World.cell?_alloc_lt V.drew _ ⟨P, 2, none⟩ hPV).trans s2) (fun he => by have := HPO.out P he.symm; omega)
      obtain ⟨X, hX⟩ : ∃ X, X = w2.setCell ⟨B, 21, none⟩ (.slice ad2 n2 cap2) := ⟨_, rfl⟩
      rw [← hX] at HB3 HO3 HW3 r0 r2 ⊢
      clear hX g1 g2 HB2 HO2 HG2 s0 s1 s2 f0 f1 f2 hBV hPV HBV HOV HWV HPO
      have t1 := HB3.out.item (k := m) (by omega)
      rw [show itB d (k + 1) m = vx by rw [itB_pass (by rw [HO.out]; show (1 : Int) ≠ 2; decide)]; exact HSV.out.2.2] at t1
      have t2 := HB3.out.sum (k := tn) (by omega)
      rw [HSV.out.1] at t2
      have t3 := HB3.out.thaw (14 + tn)
      have HB4 : Hid (BoardAt (X.setCell ⟨B, 14 + tn, none⟩ (.int .i64 (sm + vx))) B (itB d (k + 1)) (cntB d (k + 1)) (sumB d (k + 1)) (.slice ad2 n2 cap2)) := by
        rw [sumB_read (by rw [HO.out]) (by rw [HO.out]), HSV.out.1, HSV.out.2.1]
        exact HB3.out.setSum (by omega) _
      have HO4 : Hid ((X.setCell ⟨B, 14 + tn, none⟩ (.int .i64 (sm + vx))).ownsRow (B + 1) 3 1 (.slice ad2 n2 cap2) (n1 + 1) ((seenTo d k).map (Value.int .i64) ++ [.int .i64 vx])) := ownsRow_setCell_below HO3.out (by show B < B + 1; omega) _
      go_wp2_with fail
      go_region
      all_goals
        go_wp2
        go_end0
        exact ⟨rfl, ⟨_, HB4.out, by rw [HN.out, List.length_append, HN1.out, List.map_append]; exact HO4.out⟩, (HW3.out.setCell (by exact Nat.le_refl _) _).drew⟩
  · by_cases ha2 : a = 2
    · subst ha2
      obtain ⟨hx1, hx6⟩ := isOp_item HIS.out (.inr rfl)
      simp only at hx1 hx6
      obtain ⟨m, rfl⟩ : ∃ m : Nat, x = (m : Int) := ⟨x.toNat, by omega⟩
      have hm7 : (m : Int) < 7 := by omega
      have f0 := HBV.out.item (k := m) (by omega)
      have f1 := HBV.out.count (k := tn) (by omega)
      have f2 := HBV.out.sum (k := tn) (by omega)
      have f3 := HBV.out.thaw m
      have hcc : cntB d (k + 1) tn = (cn : Int) + 1 := by rw [cntB_step hk (by rw [HO.out]), HCN.out.1]; simp [setN7]
      rw [hcc] at f1
      obtain ⟨sm, hsm⟩ : ∃ sm, sumB d k tn = sm := ⟨_, rfl⟩
      rw [hsm] at f2
      have hsb := sumTo_bound d (tn : Int) k
      have hsm1 : 0 ≤ sm ∧ sm ≤ 40000120 := by
        have : sumTo d k (tn : Int) = sm := hsm
        omega
      obtain ⟨hsm0, hsm2⟩ := hsm1
      obtain ⟨ov, hov⟩ : ∃ ov, itB d k m = ov := ⟨_, rfl⟩
      rw [hov] at f0
      have HWR : Hid (wrote d k = (7 * (tn : Int) + ((cn : Int) + 1) + sm) % 1000003) := by
        show wrote d k = _
        unfold wrote
        rw [HO.out, HCN.out.2]
        show (7 * (tn : Int) + ((cn : Int) + 1) + sumB d k tn) % 1000003 = _
        rw [hsm]
      have HN : Hid (seenTo d (k + 1) = seenTo d k) := by show seenTo d (k + 1) = seenTo d k; rw [seenTo, HO.out, if_neg ha1]
      clear hsb hsm hcc hov
      have HB4 : Hid (BoardAt (V.setCell ⟨B, m, none⟩ (.int .i64 ((7 * (tn : Int) + ((cn : Int) + 1) + sm) % 1000003))) B (itB d (k + 1)) (cntB d (k + 1)) (sumB d (k + 1)) (.slice ad len cap)) := by
        rw [sumB_pass (by rw [HO.out]; exact ha1), itB_write (m := m) (by rw [HO.out]) (by rw [HO.out]), HWR.out]
        exact HBV.out.setItem (by omega) _
      have HO4 : Hid ((V.setCell ⟨B, m, none⟩ (.int .i64 ((7 * (tn : Int) + ((cn : Int) + 1) + sm) % 1000003))).ownsRow (B + 1) 3 1 (.slice ad len cap) n1 ((seenTo d k).map (Value.int .i64))) := ownsRow_setCell_below HOV.out (by show B < B + 1; omega) _
      go_wp2_with fail
      go_region
      all_goals
        go_wp2
        go_end0
        exact ⟨rfl, ⟨_, HB4.out, by rw [HN.out, HN1.out]; exact HO4.out⟩, (HWV.out.setCell (by exact Nat.le_refl _) _).drew⟩
    · have e1 : (a == 1) = false := by simpa using ha1
      have e2 : (a == 2) = false := by simpa using ha2
      have HN : Hid (seenTo d (k + 1) = seenTo d k) := by show seenTo d (k + 1) = seenTo d k; rw [seenTo, HO.out, if_neg ha1]
      have HB4 : Hid (BoardAt V B (itB d (k + 1)) (cntB d (k + 1)) (sumB d (k + 1)) (.slice ad len cap)) := by
        rw [sumB_pass (by rw [HO.out]; exact ha1), itB_pass (by rw [HO.out]; exact ha2)]
        exact HBV.out
      clear ha1 ha2
      go_wp2_with fail
      go_end0
      exact ⟨rfl, ⟨_, HB4.out, by rw [HN.out, HN1.out]; exact HOV.out⟩, HWV.out⟩
end Go.Proofs.YtmjjiehnjghndaaGreat

namespace Go.Proofs.YtmjjiehnjghndaaGreat
open Go.RowKit

def zeroB : Array Value := cells22 (fun _ => 0) (fun _ => 0) (fun _ => 0) (.slice none 0 0)
theorem bPart_one (F C S : Nat → Int) (ad : Option Addr) (n c k : Nat) : (bPart F C S (.slice ad n c) k).oneCell' = true := by
  unfold bPart
  split
  · rfl
  · split
    · rfl
    · split <;> rfl
theorem cells22_one (F C S : Nat → Int) (ad : Option Addr) (n c : Nat) : (cells22 F C S (.slice ad n c)).all (·.oneCell') = true := by
  rw [Array.all_eq_true_iff_forall_mem]
  intro v hv
  simp only [cells22, List.mem_toArray, List.mem_map] at hv
  obtain ⟨k, _, rfl⟩ := hv
  exact bPart_one _ _ _ _ _ _ _
theorem results_board {P : Program} {fn : Func} {p q : Tmp} {ty : TypeId} (h : fn.results = #[.cell p ty, .tmp q]) (tmps : Array Value) (w : World) (g : Nat) (t : TypeId) (cs : Array Value) (fr : Nat × Nat) (d : TypeDesc) (v : Value)
    (hp : tmps.getD p undef = .pointer (some ⟨g, 0, none⟩)) (hq : tmps.getD q undef = v) (hg : w.heap[g]? = some (.cells cs t fr))
    (hu : P.underlying ty = some d) (hd : (match d with | .struct _ | .array _ _ => true | _ => false) = true) (hi : (P.info? ty).map (·.size) = some cs.size) :
    (results fn tmps).run P w = .ok (.tuple #[.agg cs, v]) w := by
  have hp' : tmps[p]?.getD undef = .pointer (some ⟨g, 0, none⟩) := by simpa using hp
  have hq' : tmps[q]?.getD undef = v := by simpa using hq
  simp [results, h, hp', hq', asAddr, run_loadVar_row w g t ty cs fr d hg hu hd hi]
theorem board_split {c : Code} {Q : Exit → Act → World → Prop} {a : Act} (w : World) (Z : Array Value) (F C S : Nat → Int) (sv : Value) (hZ : zeroB = Z) (h : ∀ W, BoardAt W w.heap.size F C S sv → Below w.heap.size w W → Code.wp Tryz.prog c Q a W) :
    Code.wp Tryz.prog c Q a ((w.alloc (.cells Z 66)).setRow w.heap.size (cells22 F C S sv)) := by
  subst hZ
  exact h _ (setRow_heap _ _ _ _ _ _ (board_box w _ _ _ _)) (below_setRow ((Below.refl _ w).alloc (Nat.le_refl _) _) (Nat.le_refl _) _)
theorem zero_split {F : FuncId} {args : Array Value} {Q : Ending → World → Prop} (w : World) (Z : Array Value) (hZ : zeroB = Z) (h : ∀ W, BoardAt W w.heap.size (fun _ => 0) (fun _ => 0) (fun _ => 0) (.slice none 0 0) → Below w.heap.size w W → Calls Tryz.prog F args W Q) :
    Calls Tryz.prog F args (w.alloc (.cells Z 66)) Q := by
  subst hZ
  exact h _ (board_box w _ _ _ _) ((Below.refl _ w).alloc (Nat.le_refl _) _)

theorem own_setRow {w : World} {base e size n g0 : Nat} {v : Value} {xs : List Value} (h : w.ownsRow base e size v n xs) (hg : g0 < base) (cs : Array Value) : (w.setRow g0 cs).ownsRow base e size v n xs := by
  obtain ⟨hl, hd | ⟨g, cap, cur, hv, hbg, hgc, hn, hm, hsz, htk⟩⟩ := h
  · exact ⟨hl, .inl hd⟩
  · refine ⟨hl, .inr ⟨g, cap, cur, hv, hbg, ?_, hn, hm, hsz, htk⟩⟩
    rw [← hgc]
    unfold World.setRow
    simp [Array.getElem?_modify, show ¬ g0 = g by omega]
theorem played_start (w : World) (d : List Op3) : Played (w.alloc (.cells zeroB 66)) w.heap.size d 0 := by
  refine ⟨.slice none 0 0, ?_, World.ownsRow_nil _ _ _ _⟩
  have h := board_box w (fun _ => 0) (fun _ => 0) (fun _ => 0) (.slice none 0 0)
  have e1 : itB d 0 = fun _ => 0 := rfl
  have e2 : cntB d 0 = fun _ => 0 := by funext j; simp [cntB, ofL]
  have e3 : sumB d 0 = fun _ => 0 := rfl
  rw [e1, e2, e3]
  exact h
theorem Played.alloc {w : World} {B k : Nat} {d : List Op3} (h : Played w B d k) (o : Obj) : Played (w.alloc o) B d k := by
  obtain ⟨sv, h1, h2⟩ := h
  exact ⟨sv, h1.below ((Below.refl _ w).alloc (Nat.le_refl _) o) h1.lt, h2.alloc _⟩

set_option maxHeartbeats 8000000 in
set_option maxRecDepth 100000 in
theorem played_ok (l : List Op3) (v : Value) (w : World) (hI : IsOps w v l) (hc : (chk l).2 = 0) :
    Calls Tryz.prog 29 #[v] w fun e w' => ∃ ad n c, e = .returned (.tuple #[.agg (cells22 (itB (doneL l) (doneL l).length) (cntB (doneL l) (doneL l).length) (sumB (doneL l) (doneL l).length) (.slice ad n c)), .nilIface]) ∧ IsInts w' (.slice ad n c) (seenTo (doneL l) (doneL l).length) ∧ Below w.heap.size w w' := by
  have HC : Hid (∀ W, Below w.heap.size w W → Calls Tryz.prog 39 #[v] W fun e w' => ∃ v', e = .returned (.tuple #[v', .nilIface]) ∧ IsOps w' v' (doneL l) ∧ Below W.heap.size W w') := fun W hW => done_ok l v W (hI.below hW (Nat.le_refl _)) hc
  have hcd := chk_done hc
  obtain ⟨d, hd⟩ : ∃ d, doneL l = d := ⟨_, rfl⟩
  rw [hd] at HC hcd ⊢
  have hl := chk_len hcd
  have HOP : Hid (∀ o ∈ d, isOpB o = true) := chk_ops hcd
  clear hI hc hcd hd
  go_enter Tryz.func29, Tryz.ntmps29
  go_wp2_with fail
  refine zero_split w _ rfl ?_
  intro W hW hbW
  have HZ : Hid (BoardAt W w.heap.size (fun _ => 0) (fun _ => 0) (fun _ => 0) (.slice none 0 0)) := hW
  have HB : Hid (Below w.heap.size w W) := hbW
  clear hW hbW
  refine (HC.out W HB.out).mono ?_
  rintro e w1 ⟨v1, rfl, hI1, hb1⟩
  have HZ1 : Hid (w1.heap[w.heap.size]? = some (.cells zeroB 66 (0, 0))) := HZ.out.below hb1 HZ.out.lt
  have hw1 : w.heap.size < w1.heap.size := Nat.lt_of_lt_of_le HZ.out.lt hb1.size
  have HB1 : Hid (Below w.heap.size w w1) := HB.out.trans (hb1.mono HB.out.size)
  obtain ⟨ad, b, off, cap, hv1, ha, -, hbB, hops⟩ := hI1
  subst hv1
  have HE : Hid (∀ W, Below w1.heap.size w1 W → ∀ k, k < d.length → ad = some ⟨b, off, none⟩ ∧ W.cell? ⟨b, off + k * 3, none⟩ = some (.int .i64 (opAt d k).1) ∧ W.cell? ⟨b, off + k * 3 + 1, none⟩ = some (.int .i64 (opAt d k).2.1) ∧ W.cell? ⟨b, off + k * 3 + 2, none⟩ = some (.int .i64 (opAt d k).2.2)) := fun W hW k hk => ⟨ha (by omega), (hops.below hW hbB) k hk⟩
  clear ha hbB hops hb1 HZ HB HC
  go_wp2_with fail
  go_loopw [20] (fun v20 wr => ∃ k : Nat, k ≤ d.length ∧ v20 = .int .i64 k ∧ Played wr w1.heap.size d k ∧ Below w1.heap.size w1 wr) (fun v20 _ => d.length - (intOf v20).toNat)
  case atStart => exact ⟨0, Nat.zero_le _, rfl, played_start w1 d, (Below.refl _ w1).alloc (Nat.le_refl _) _⟩
  case round =>
    obtain ⟨k, hk, rfl, hpl, hbr⟩ := hrel
    have HP : Hid (Played wr w1.heap.size d k) := hpl
    have HBR : Hid (Below w1.heap.size w1 wr) := hbr
    clear hpl
    by_cases hlt : k < d.length
    · have hlt' : (k : Int) < (d.length : Int) := by omega
      obtain ⟨hadr, c0, c1, c2⟩ := HE.out wr hbr k hlt
      subst hadr
      obtain ⟨⟨t, a, x⟩, ho⟩ : ∃ o : Op3, opAt d k = o := ⟨_, rfl⟩
      have hisop := HOP.out _ (opAt_mem hlt)
      rw [ho] at c0 c1 c2 hisop
      have HO : Hid (opAt d k = (t, a, x)) := ho
      have HIS : Hid (isOpB (t, a, x) = true) := hisop
      simp only at c0 c1 c2
      clear ho hisop hbr
      have HCL : Hid (∀ o, Calls Tryz.prog 54 #[.pointer (some ⟨w1.heap.size, 0, none⟩), .agg #[.int .i64 t, .int .i64 a, .int .i64 x]] (wr.alloc o) fun e w' => e = .returned (.tuple #[]) ∧ Played w' w1.heap.size d (k + 1) ∧ Below w1.heap.size (wr.alloc o) w') := fun o => bplay_any d k _ t a x _ (HP.out.alloc o) hlt hl HO.out HIS.out
      go_wp2_with (go_at_call 54; refine (HCL.out _).mono ?_; rintro e w2 ⟨rfl, hp2, hb2⟩)
      go_roundw
      case rel => exact ⟨k + 1, by omega, by go_num, hp2, (HBR.out.alloc HBR.out.size _).trans hb2⟩
      case measure => simp [intOf]; omega
    · have hlt' : ¬ (k : Int) < (d.length : Int) := by omega
      obtain rfl : k = d.length := by omega
      obtain ⟨sv, hbd, hown⟩ := HP.out
      obtain ⟨ad2, n2, cap2, rfl⟩ := own_parts3 hown
      have HBD : Hid (wr.heap[w1.heap.size]? = some (.cells (cells22 (itB d d.length) (cntB d d.length) (sumB d d.length) (.slice ad2 n2 cap2)) 66 (0, 0))) := hbd
      have HR : Hid (IsInts wr (.slice ad2 n2 cap2) (seenTo d d.length) ∧ wr.ownsRow (w1.heap.size + 1) 3 1 (.slice ad2 n2 cap2) (seenTo d d.length).length ((seenTo d d.length).map (Value.int .i64))) := ⟨isInts_own hown rfl, hown⟩
      have HZR : Hid (wr.heap[w.heap.size]? = some (.cells zeroB 66 (0, 0))) := (hbr.block _ hw1).trans HZ1.out
      clear hbd hown hbr HP
      go_wp2_with (first | refine wpList_load_row rfl 66 (.tmp 6) rfl w1.heap.size rfl 66 (cells22 (itB d d.length) (cntB d d.length) (sumB d d.length) (.slice ad2 n2 cap2)) (0, 0) _ HBD.out Tryz.underlying66 rfl (board_info' _ _ _ _) ?_ | refine wpList_store_row rfl 66 (.tmp 2) (.tmp 27) rfl w.heap.size (cells22 (itB d d.length) (cntB d d.length) (sumB d d.length) (.slice ad2 n2 cap2)) rfl rfl 66 zeroB HZR.out (board_info' _ _ _ _) (by rw [cells22_size]; rfl) (cells22_one _ _ _ _ _ _) ?_)
      refine bodyPost_ret (v := .tuple #[.agg (cells22 (itB d d.length) (cntB d d.length) (sumB d d.length) (.slice ad2 n2 cap2)), .nilIface]) (results_board Tryz.results29 _ _ w.heap.size 66 (cells22 (itB d d.length) (cntB d d.length) (sumB d d.length) (.slice ad2 n2 cap2)) (0, 0) _ _ rfl rfl (setRow_heap _ _ _ _ _ _ HZR.out) Tryz.underlying66 rfl (board_info' _ _ _ _)) rfl ⟨_, _, _, rfl, ?_, below_setRow (HB1.out.trans (HBR.out.mono HB1.out.size)) (Nat.le_refl _) _⟩
      exact isInts_own (own_setRow HR.out.2 (by omega) _) rfl

set_option maxHeartbeats 4000000 in
set_option maxRecDepth 100000 in
theorem values_ok : ValuesOk := by
  intro l v w hI hc
  have HC : Hid (Calls Tryz.prog 29 #[v] w fun e w' => ∃ ad n c, e = .returned (.tuple #[.agg (cells22 (itB (doneL l) (doneL l).length) (cntB (doneL l) (doneL l).length) (sumB (doneL l) (doneL l).length) (.slice ad n c)), .nilIface]) ∧ IsInts w' (.slice ad n c) (seenTo (doneL l) (doneL l).length) ∧ Below w.heap.size w w') := played_ok l v w hI hc
  obtain ⟨d, hd⟩ : ∃ d, doneL l = d := ⟨_, rfl⟩
  rw [hd] at HC ⊢
  clear hI hc hd
  obtain ⟨C, hC⟩ : ∃ C, cntB d d.length = C := ⟨_, rfl⟩
  obtain ⟨S, hS⟩ : ∃ S, sumB d d.length = S := ⟨_, rfl⟩
  rw [hC, hS] at HC
  clear hC hS
  go_enter Tryz.func9, Tryz.ntmps9
  go_wp2_with fail
  refine HC.out.mono ?_
  rintro e w1 ⟨ad, n, c, rfl, -, hb1⟩
  have HB1 : Hid (Below w.heap.size w w1) := hb1
  have HZ : Hid ((w1.alloc (.cells zeroB 66)).heap[w1.heap.size]? = some (.cells zeroB 66 (0, 0))) := board_box w1 _ _ _ _
  clear hb1
  go_upto_region 2 with (refine wpList_store_row rfl 66 (.tmp 4) (.tmp 9) rfl w1.heap.size (cells22 (itB d d.length) C S (.slice ad n c)) rfl rfl 66 zeroB HZ.out (board_info' _ _ _ _) (by rw [cells22_size]; rfl) (cells22_one _ _ _ _ _ _) ?_)
  refine board_split w1 _ _ _ _ _ rfl ?_
  intro W hW hbW
  have HV : Hid (IsInts W (.slice (some ⟨w1.heap.size, 1, none⟩) 6 6) (valsL d)) := by
    refine ⟨some ⟨w1.heap.size, 1, none⟩, w1.heap.size, 1, 6, by simp [valsL], fun _ => rfl, fun h => (by cases h), .inl hW.lt, fun i hi => ?_⟩
    have hi6 : i < 6 := by simpa [valsL] using hi
    rw [hW.item (k := 1 + i) (by omega)]
    simp [valsL, itB, List.getD, hi6, Int.add_comm]
  have HBW : Hid (Below w.heap.size w W) := HB1.out.trans (hbW.mono HB1.out.size)
  clear hbW hW
  go_wp2_with fail
  refine (clone_ints _ _ _ HV.out (by have := vals_few d; simp [valsL])).mono ?_
  rintro e w2 ⟨v2, rfl, hown, hb2⟩
  have HR : Hid (IsInts w2 v2 (valsL d)) := isInts_own hown rfl
  clear hown
  go_wp2_with fail
  go_ret2
  exact ⟨_, rfl, HR.out, HBW.out.trans (hb2.mono HBW.out.size)⟩
end Go.Proofs.YtmjjiehnjghndaaGreat

namespace Go.Proofs.YtmjjiehnjghndaaGreat
open Go.ChangeShapes Go.WideShapes Go.ChangeAt Go.RowKit

theorem cellsOp : Tryz.prog.cellsOf 38 = 3 := by kernel_rfl
theorem cellsInt : Tryz.prog.cellsOf 3 = 1 := by kernel_rfl

theorem three_of {α : Type} {l : List α} (h : l.length = 3) : ∃ a b c, l = [a, b, c] := by
  match l, h with
  | [a, b, c], _ => exact ⟨a, b, c, rfl⟩
/-- A list of ops, out of its reading. -/
theorem open_ops {H : Type} {enc : TypeId × Value → H} {w : World} {fuel : Nat} {a0 : Option Addr} {len cap : Nat} {x : DataW H × List MemPlace}
    (h : DataW.trod enc Tryz.prog w 0 (fun _ => true) true fuel 22 [.slice a0 len cap] = some x) :
    ∃ (l : List Op3) (b off : Nat), l.length = len ∧ (0 < len → a0 = some ⟨b, off, none⟩) ∧ (a0 = none → len = 0 ∧ cap = 0) ∧ OpsAt w b off l ∧ (0 < len → .cell b off ∈ x.2) ∧ len ≤ cap := by
  rcases Deep.open_slice Tryz.underlying22 h with ⟨hc, hx⟩ | ⟨a, len', cap', m, n, D, Pl, hc, _, hl, hm, hmm, hx, hall⟩
  · simp only [List.cons.injEq, and_true, Value.slice.injEq] at hc
    obtain ⟨rfl, rfl, rfl⟩ := hc
    exact ⟨[], 0, 0, rfl, fun h => absurd h (by omega), fun _ => ⟨rfl, rfl⟩, fun i hi => by simp at hi, fun h => absurd h (by omega), Nat.le_refl _⟩
  · simp only [List.cons.injEq, and_true, Value.slice.injEq] at hc
    obtain ⟨rfl, rfl, rfl⟩ := hc
    simp only [if_true] at hmm
    subst hmm
    rw [cellsOp] at hall
    have each : ∀ i, i < m → ∃ o : Op3, w.cell? (a.add (i * 3)) = some (.int .i64 o.1) ∧ w.cell? (a.add (i * 3 + 1)) = some (.int .i64 o.2.1) ∧ w.cell? (a.add (i * 3 + 2)) = some (.int .i64 o.2.2) := by
      intro i hi
      obtain ⟨cs', h1, h2⟩ := hall i hi
      obtain ⟨_, hlen, hcell⟩ := World.cells?_some h1
      obtain ⟨y0, y1, y2, k, _, _, g0, g1, g2⟩ := Deep.trod_struct3 Tryz.underlying38 h2
      obtain ⟨v0, v1, v2, rfl⟩ := three_of hlen
      simp [cellsInt] at g0 g1 g2
      obtain ⟨n0, q0, _, _⟩ := DataW.trod_int Tryz.underlying3 g0
      obtain ⟨n1, q1, _, _⟩ := DataW.trod_int Tryz.underlying3 g1
      obtain ⟨n2, q2, _, _⟩ := DataW.trod_int Tryz.underlying3 g2
      simp only [List.cons.injEq, and_true] at q0 q1 q2
      subst q0 q1 q2
      have e0 := hcell 0 (by omega)
      have e1 := hcell 1 (by omega)
      have e2 := hcell 2 (by omega)
      rw [Deep.add_add] at e0 e1 e2
      exact ⟨(n0, n1, n2), by simpa using e0, by simpa using e1, by simpa using e2⟩
    by_cases h0 : len = 0
    · subst h0
      exact ⟨[], 0, 0, rfl, fun h => absurd h (by omega), fun h => (by simp at h), fun i hi => (by simp at hi), fun h => absurd h (by omega), Nat.zero_le _⟩
    · obtain ⟨b, off, spot⟩ := a
      obtain ⟨o0, c0, _⟩ := each 0 (by omega)
      have hspot : spot = none := by simpa [Addr.add] using World.cell?_spot c0
      subst hspot
      obtain ⟨F, hF⟩ := Deep.choose_lt each
      refine ⟨(List.range len).map F, b, off, by simp, fun _ => rfl, fun h => (by cases h), fun i hi => ?_, fun _ => ?_, hl⟩
      · have hi' : i < len := by simpa using hi
        obtain ⟨e0, e1, e2⟩ := hF i (by omega)
        have hget : ((List.range len).map F).getD i (0, 0, 0) = F i := by simp [List.getD, hi']
        rw [hget]
        rw [Addr.add_lit] at e0 e1 e2
        exact ⟨e0, by rw [Nat.add_assoc]; exact e1, by rw [Nat.add_assoc]; exact e2⟩
      · rw [hx]
        refine List.mem_append_left _ ?_
        rw [cellsOp]
        exact MemPlace.mem_row.2 ⟨0, by omega, by simp⟩
end Go.Proofs.YtmjjiehnjghndaaGreat
