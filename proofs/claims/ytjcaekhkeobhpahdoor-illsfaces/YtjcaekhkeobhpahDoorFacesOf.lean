/-
  PROVED HERE: faces.Of tells whether a right list is recoverable, cautious, strict and rigorous, as said op by op; of a wrong list it gives Check's error. Old memory stays as it was.
  Conditions: the slice is no longer than its capacity.
-/
import Derived.Test.YtjcaekhkeobhpahDoorFacesFunc
import Derived.Test.YtjcaekhkeobhpahDoorFacesDel
import Derived.Test.YtjcaekhkeobhpahDoorOddPairs
import Derived.Test.YtjcaekhkeobhpahDoorMgaj
import Derived.Test.YtjcaekhkeobhpahDoorMgak
namespace Go.Proofs.YtjcaekhkeobhpahDoor
open Go.RowKit

set_option maxHeartbeats 4000000 in
theorem openW_fn (l : List Op3) (f : Nat → Int × Int) (i j : Nat) (v : Value) (B1 B2 B3 : Nat) (w : World) (hI : IsOps w v l) (hop : ∀ o ∈ l, isOpB o = true) (hi : i < l.length) (hc : w.cell? ⟨B1, 0, none⟩ = some v) (hE : EndsAt w B2 f) (hc3 : w.cell? ⟨B3, 0, none⟩ = some (.func (.func 31) #[] #[.pointer (some ⟨B2, 0, none⟩), .pointer (some ⟨B1, 0, none⟩)])) :
    Calls Tryd.prog 33 #[.agg #[.int .i64 i, .int .i64 j], .pointer (some ⟨B1, 0, none⟩), .pointer (some ⟨B3, 0, none⟩)] w fun e w' => e = .returned (.bool (openW l f ((i : Int), (j : Int)))) ∧ Below w.heap.size w w' := by
  have HOPN : Hid (∀ W, Below w.heap.size w W → Calls Tryd.prog 31 #[.agg #[.int .i64 i, .int .i64 j], .pointer (some ⟨B2, 0, none⟩), .pointer (some ⟨B1, 0, none⟩)] W fun e w' => e = .returned (.bool (openE l f ((i : Int), (j : Int)))) ∧ Below W.heap.size W w') := fun W hW =>
    open_fn l f i j v B1 B2 W (hI.below hW (Nat.le_refl _)) hop hi ((hW.cell (p := ⟨B1, 0, none⟩) (World.block_lt_of_cell? w _ hc)).trans hc) (hE.below hW hE.lt)
  obtain ⟨⟨t, a, y⟩, ho⟩ : ∃ o : Op3, opAt l i = o := ⟨_, rfl⟩
  obtain ⟨b, off, cap, rfl, hb, -, c1⟩ := op_cells hI hi ho
  have HE : Hid (openW l f ((i : Int), (j : Int)) = (a == 2 && openE l f ((i : Int), (j : Int)))) := by show openW l f ((i : Int), (j : Int)) = _; unfold openW; simp only [Int.toNat_natCast, ho]
  have bB := World.block_lt_of_cell? w _ hc
  have bB3 := World.block_lt_of_cell? w _ hc3
  simp only at bB bB3
  clear hI ho hop hE
  go_enter Tryd.func33, Tryd.ntmps33
  go_upto_region 1 with (fail)
  obtain ⟨W, hW⟩ : ∃ W, W = w.alloc (.cells #[.int .i64 i, .int .i64 j] 55) := ⟨_, rfl⟩
  rw [← hW]
  obtain ⟨P, hP⟩ : ∃ P, P = w.heap.size := ⟨_, rfl⟩
  have p0 : W.cell? ⟨P, 0, none⟩ = some (.int .i64 i) := by rw [hW, hP]; exact (pair_box w _ _ _).1
  have p1 : W.cell? ⟨P, 1, none⟩ = some (.int .i64 j) := by rw [hW, hP]; exact (pair_box w _ _ _).2
  have hbw : Below w.heap.size w W := by rw [hW]; exact (Below.refl _ w).alloc (Nat.le_refl _) _
  have k0 := (hbw.cell (p := ⟨B1, 0, none⟩) bB).trans hc
  have k1 := (hbw.cell (p := ⟨b, off + i * 3 + 1, none⟩) hb).trans c1
  have k2 := (hbw.cell (p := ⟨B3, 0, none⟩) bB3).trans hc3
  have HB : Hid (Below w.heap.size w W) := hbw
  have hi' : (i : Int) < (l.length : Int) := by omega
  rw [← hP]
  clear hW hbw hc c1 hc3 hb bB bB3 hP
  by_cases ha : a = 2
  · subst ha
    go_wp2_with fail
    refine (HOPN.out W HB.out).mono ?_
    rintro e w1 ⟨rfl, hb1⟩
    have HB1 : Hid (Below w.heap.size w w1) := HB.out.trans (hb1.mono HB.out.size)
    clear hb1
    go_wp2_with fail
    go_ret
    exact ⟨by rw [HE.out]; rfl, HB1.out⟩
  · have ha' : (a == 2) = false := by simpa using ha
    clear ha
    go_wp2_with fail
    go_ret
    exact ⟨by rw [HE.out, ha']; rfl, HB.out⟩
theorem results_pair {P : Program} {fn : Func} {p q : Tmp} {ty : TypeId} (h : fn.results = #[.cell p ty, .tmp q]) (tmps : Array Value) (w : World) (g : Nat) (t : TypeId) (cs : Array Value) (fr : Nat × Nat) (d : TypeDesc) (v : Value)
    (hp : tmps.getD p undef = .pointer (some ⟨g, 0, none⟩)) (hq : tmps.getD q undef = v) (hg : w.heap[g]? = some (.cells cs t fr))
    (hu : P.underlying ty = some d) (hd : (match d with | .struct _ | .array _ _ => true | _ => false) = true) (hi : (P.info? ty).map (·.size) = some cs.size) :
    (results fn tmps).run P w = .ok (.tuple #[.agg cs, v]) w := by
  have hp' : tmps[p]?.getD undef = .pointer (some ⟨g, 0, none⟩) := by simpa using hp
  have hq' : tmps[q]?.getD undef = v := by simpa using hq
  simp [results, h, hp', hq', asAddr, run_loadVar_row w g t ty cs fr d hg hu hd hi]
/-- Four bools in a block. -/
def FourAt (w : World) (b : Nat) (p q r s : Bool) : Prop := w.heap[b]? = some (.cells #[.bool p, .bool q, .bool r, .bool s] 39 (0, 0))
theorem FourAt.lt {w : World} {b : Nat} {p q r s : Bool} (h : FourAt w b p q r s) : b < w.heap.size := by
  have h' : w.heap[b]? = some _ := h
  exact (Array.getElem?_eq_some_iff.1 h').1
theorem FourAt.below {w w1 : World} {b B : Nat} {p q r s : Bool} (h : FourAt w b p q r s) (hb : Below B w w1) (hB : b < B) : FourAt w1 b p q r s := (hb.block b hB).trans h
theorem FourAt.cells {w : World} {b : Nat} {p q r s : Bool} (h : FourAt w b p q r s) : w.cell? ⟨b, 0, none⟩ = some (.bool p) ∧ w.cell? ⟨b, 1, none⟩ = some (.bool q) ∧ w.cell? ⟨b, 2, none⟩ = some (.bool r) ∧ w.cell? ⟨b, 3, none⟩ = some (.bool s) :=
  ⟨by rw [cell_of_row w b _ _ _ _ h]; rfl, by rw [cell_of_row w b _ _ _ _ h]; rfl, by rw [cell_of_row w b _ _ _ _ h]; rfl, by rw [cell_of_row w b _ _ _ _ h]; rfl⟩
theorem FourAt.thaw {w : World} {b : Nat} {p q r s : Bool} (h : FourAt w b p q r s) (k : Nat) : w.frozen? ⟨b, k, none⟩ = false := by
  have h' : w.heap[b]? = some _ := h
  simp [World.frozen?, h']
theorem FourAt.put {w : World} {b : Nat} {p q r s : Bool} (h : FourAt w b p q r s) (p1 q1 r1 s1 : Bool) : FourAt ((((w.setCell ⟨b, 0, none⟩ (.bool p1)).setCell ⟨b, 1, none⟩ (.bool q1)).setCell ⟨b, 2, none⟩ (.bool r1)).setCell ⟨b, 3, none⟩ (.bool s1)) b p1 q1 r1 s1 := by
  have h' : w.heap[b]? = some (.cells #[.bool p, .bool q, .bool r, .bool s] 39 (0, 0)) := h
  unfold FourAt World.setCell
  simp [Array.getElem?_modify, h']
theorem four_box (w : World) (p q r s : Bool) : FourAt (w.alloc (.cells #[.bool p, .bool q, .bool r, .bool s] 39)) w.heap.size p q r s := by
  unfold FourAt World.alloc
  simp
theorem four_info : (Tryd.prog.info? 39).map (·.size) = some 4 := by kernel_rfl
set_option maxHeartbeats 4000000 in
theorem fof_bad (l : List Op3) (v : Value) (w : World) (h : IsOps w v l) (hc : (chk l).2 ≠ 0) :
    Calls Tryd.prog 11 #[v] w fun e w' => e = .returned (.tuple #[.agg #[.bool false, .bool false, .bool false, .bool false], .iface 59 (.int .i64 (chk l).2)]) ∧ Below w.heap.size w w' := by
  have HPB : Hid (∀ W, Below w.heap.size w W → Calls Tryd.prog 23 #[v] W fun e w' => e = .returned (.tuple #[.slice none 0 0, .iface 59 (.int .i64 (chk l).2)]) ∧ Below W.heap.size W w') := fun W hW => pairs_bad l v W (h.below hW (Nat.le_refl _)) hc
  obtain ⟨c, hcc⟩ : ∃ c, (chk l).2 = c := ⟨_, rfl⟩
  rw [hcc] at HPB ⊢
  obtain ⟨ad, n, cap, rfl⟩ : ∃ ad n cap, v = .slice ad n cap := by
    obtain ⟨ad, _, _, cap, hv, _⟩ := h
    exact ⟨ad, _, cap, hv⟩
  clear h hc hcc
  go_enter Tryd.func11, Tryd.ntmps11
  go_upto_region 1 with (fail)
  obtain ⟨W, hW⟩ : ∃ W, W = (w.alloc (.cells #[.slice ad n cap] 22)).alloc (.cells #[.bool false, .bool false, .bool false, .bool false] 39) := ⟨_, rfl⟩
  have hs1 : (w.alloc (.cells #[.slice ad n cap] 22)).heap.size = w.heap.size + 1 := by simp
  have HF : Hid (FourAt W (w.heap.size + 1) false false false false) := by
    show FourAt W _ _ _ _ _
    rw [hW, ← hs1]; exact four_box _ _ _ _ _
  have p0 : W.cell? ⟨w.heap.size, 0, none⟩ = some (.slice ad n cap) := by rw [hW]; exact cell_older _ (cell_first w _ _)
  have HB : Hid (Below w.heap.size w W) := by show Below _ _ _; rw [hW]; exact ((Below.refl _ w).alloc (Nat.le_refl _) _).alloc (by simp) _
  rw [← hW]
  clear hW hs1
  go_wp2_with fail
  refine (HPB.out W HB.out).mono ?_
  rintro e w1 ⟨rfl, hb1⟩
  have HF1 : Hid (FourAt w1 (w.heap.size + 1) false false false false) := HF.out.below hb1 HF.out.lt
  obtain ⟨z0, z1, z2, z3⟩ := HF1.out.cells
  have y0 := HF1.out.thaw 0
  have y1 := HF1.out.thaw 1
  have y2 := HF1.out.thaw 2
  have y3 := HF1.out.thaw 3
  have HB1 : Hid (Below w.heap.size w w1) := HB.out.trans (hb1.mono HB.out.size)
  clear hb1 p0
  go_wp2_with fail
  refine bodyPost_ret (v := .tuple #[.agg #[.bool false, .bool false, .bool false, .bool false], .iface 59 (.int .i64 c)]) (results_pair Tryd.results11 _ _ (w.heap.size + 1) 39 #[.bool false, .bool false, .bool false, .bool false] (0, 0) _ _ rfl rfl (HF1.out.put _ _ _ _) Tryd.underlying39 rfl four_info) rfl ⟨rfl, ?_⟩
  exact (((HB1.out.setCell (by simp) _).setCell (by simp) _).setCell (by simp) _).setCell (by simp) _
end Go.Proofs.YtjcaekhkeobhpahDoor
