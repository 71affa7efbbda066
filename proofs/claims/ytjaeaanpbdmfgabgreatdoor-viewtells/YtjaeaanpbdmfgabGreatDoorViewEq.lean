/-
  PROVED HERE: two names, and seven names and seven names, are compared as Go compares them; a law for that operation.
  Conditions: none.
-/
import Derived.Test.YtjaeaanpbdmfgabGreatDoorMgam
import Derived.BigFrame
namespace Go.Proofs.YtjaeaanpbdmfgabGreatDoor
open Go.RowKit Go.Maps

theorem mapM_all {α β : Type} {F : α → Option β} {G : α → β} : ∀ {l : List α}, (∀ i ∈ l, F i = some (G i)) → l.mapM F = some (l.map G) := by
  intro l
  induction l with
  | nil => intro _; rfl
  | cons a l ih =>
    intro h
    rw [List.mapM_cons, h a (List.mem_cons_self ..), ih fun i hi => h i (List.mem_cons_of_mem _ hi)]
    rfl
theorem four_at (f : Nat → Nm) {i : Nat} (hi : i < 7) : ((cells28 f).toList.drop (i * 4)).take 4 = (nmV (f i)).cells.toList := by
  refine List.ext_getElem? fun j => ?_
  rw [List.getElem?_take]
  by_cases hj : j < 4
  · rw [if_pos hj, List.getElem?_drop, Array.getElem?_toList, cells28_at f _ (by omega), show (i * 4 + j) / 4 = i by omega, show (i * 4 + j) % 4 = j by omega]
    rcases (show j = 0 ∨ j = 1 ∨ j = 2 ∨ j = 3 by omega) with rfl | rfl | rfl | rfl <;> rfl
  · rw [if_neg hj, List.getElem?_eq_none]
    simp [nmV, Value.cells]; omega
theorem wCells : Tryz.prog.cellsOf 81 = 28 := by kernel_rfl
theorem wKey : Tryz.prog.keyType 81 = true := by kernel_rfl
theorem wRow : 81 < Tryz.prog.types.size := of_decide_eq_true (by kernel_rfl)
theorem wWide : (match Tryz.prog.underlying 81 with | some (.array _ _) | some (.struct _) => true | _ => false) = true := by kernel_rfl
theorem wAt : Tryz.prog.keyTypeAt 4 81 = true := by kernel_rfl
theorem nAt : Tryz.prog.keyTypeAt 3 79 = true := by kernel_rfl
set_option maxRecDepth 100000 in
theorem wLaw : Keyed Tryz.prog 81 := Keyed.of_law (deep_law_laid fLaid (m := 4) (by omega) wRow wAt wWide)
def litsN (n : Nm) : List Lit := [.int .i64 n.1.1, .int .i64 n.1.2.1, .int .i64 n.1.2.2, .int .i64 n.2]
theorem w_lits (d : Nat) (f : Nat → Nm) (h : ∀ x, x < 7 → Small (f x)) : Tryz.prog.keyLits (d + 4) 81 (cells28 f).toList = some ((List.range 7).map fun i => litsN (f i)).flatten := by
  have hm : (List.range 7).mapM (fun i => Tryz.prog.keyLits (d + 3) 79 (((cells28 f).toList.drop (i * 4)).take 4)) = some ((List.range 7).map fun i => litsN (f i)) := mapM_all fun i hi => by
    rw [four_at f (List.mem_range.1 hi)]
    exact nm_lits d (f i) (h i (List.mem_range.1 hi))
  unfold Program.keyLits
  rw [Tryz.underlying81]
  simp only [wCells, fCells, Array.length_toList, cells28_size, if_true, hm]
  rfl
theorem w_key (f : Nat → Nm) (h : ∀ x, x < 7 → Small (f x)) : ∃ l, keyOf Tryz.prog 81 (.agg (cells28 f)) = some l := by
  obtain ⟨d, hd⟩ : ∃ d, Tryz.prog.types.size + 1 = d + 4 := ⟨203 - 3, by rw [fSize]⟩
  obtain ⟨L, hL⟩ : ∃ L, Tryz.prog.keyLits (d + 4) 81 (cells28 f).toList = some L := ⟨_, w_lits d f h⟩
  refine ⟨.string (keyBytes L), ?_⟩
  unfold keyOf
  rw [Tryz.underlying81, hd]
  simp only [Value.cells, hL, wKey, Value.formed, Tryz.underlying81]
  simp [wCells, cells28_size]
set_option maxRecDepth 100000 in
theorem eq_last (f g : Nat → Nm) (hf : ∀ x, x < 7 → Small (f x)) (hg : ∀ x, x < 7 → Small (g x)) (W : World) : ∃ r : Bool, (Op.equal 81 (.agg (cells28 f)) (.agg (cells28 g))).run Tryz.prog W = .ok r W ∧ (r = true ↔ ∀ x, x < 7 → f x = g x) := by
  obtain ⟨l, hl⟩ := w_key f hf
  obtain ⟨m, hm⟩ := w_key g hg
  obtain ⟨r, hr, hiff⟩ := run_equal_deep (P := Tryz.prog) W (m := 4) (by omega) wAt wWide hl hm
  refine ⟨r, hr, hiff.trans ⟨fun e x hx => ?_, fun e => ?_⟩⟩
  · subst e
    have h1 := wLaw.inj hl hm
    injection h1 with h1
    exact cells28_inj h1 hx
  · rw [cells28_congr e, hm] at hl
    exact (Option.some.inj hl).symm
set_option maxRecDepth 100000 in
theorem eq_name (a b : Nm) (ha : Small a) (hb : Small b) (W : World) : (Op.equal 79 (nmV a) (nmV b)).run Tryz.prog W = .ok (a == b) W := by
  obtain ⟨r, hr, hiff⟩ := run_equal_deep (P := Tryz.prog) W (m := 3) (by omega) nAt fWide (nm_key a ha) (nm_key b hb)
  have : r = (a == b) := by
    rw [Bool.eq_iff_iff, hiff, beq_iff_eq]
    exact ⟨fun e => nm_inj ha hb e, fun e => by rw [e]⟩
  rw [← this]; exact hr
theorem wGuard : Tryz.prog.eqGuardType Tryz.prog.depth 81 = false := by kernel_rfl
theorem nGuard : Tryz.prog.eqGuardType Tryz.prog.depth 79 = false := by kernel_rfl
/-- Two values of many cells are compared. -/
theorem wpList_eql_agg {P : Program} {ops : Array Oper} {rest : List Oper} {o : Oper} {a : Act} {w : World} {Q : Exit → Act → World → Prop} (hw : Region.wanted o (yielded ops a.tmps) = true) (t u : TypeId) (x y : Operand) (ho : o.op = .binOp .eql t x y u)
    (xs ys : Array Value) (hx : a.eval x = .agg xs) (hy : a.eval y = .agg ys) (hg : P.eqGuardType P.depth t = false) (r : Bool) (hr : (Op.equal t (.agg xs) (.agg ys)).run P w = .ok r w) (h : wpList P ops Q rest (a.put o.dst (.bool r)) w) : wpList P ops Q (o :: rest) a w := by
  refine Go.BigFrame.wpList_want hw fun K hK => ?_
  unfold Oper.wp execOp
  simp only [ho, hx, hy, eqGuard, binOp, Sem.run_bind]
  simp [hg, hr]
  exact hK _ _ h
end Go.Proofs.YtjaeaanpbdmfgabGreatDoor
