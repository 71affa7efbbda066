/-
  PROVED HERE: faces.endsOf tells how each deal of a right list ends, and where, as a row of seven; its methods tell who has committed, aborted or ended by a place. Old memory stays as it was.
  Conditions: the deal that is asked for is one of seven.
  PROVED HERE: faces.ends' method ended tells who has committed or aborted by a place; faces.endsOf gives the row of seven of a right list. Old memory stays as it was.
  Conditions: the deal that is asked for is one of seven; the list is short, and its ops are ops.
-/
import Derived.Test.YtlhkjllpgdhnjacDoorEndsPlain
import Derived.Test.YtlhkjllpgdhnjacDoorOps
import Derived.Laws.Rows
import Derived.Deep.Cut
import Derived.BigFrame
import Derived.Laws.CopyOwn
namespace Go.Proofs.YtlhkjllpgdhnjacDoor
open Go.RowKit

/-- How a deal ends, and where, as numbers. -/
def partE (p : Int × Int) (j : Nat) : Value := match j with | 0 => .int .i64 p.1 | _ => .int .i64 p.2
def cells14 (f : Nat → Int × Int) : Array Value := ((List.range 14).map fun k => partE (f (k / 2)) (k % 2)).toArray
theorem cells14_size (f : Nat → Int × Int) : (cells14 f).size = 14 := by simp [cells14]
theorem cells14_at (f : Nat → Int × Int) (k : Nat) (h : k < 14) : (cells14 f)[k]? = some (partE (f (k / 2)) (k % 2)) := by simp [cells14, h]
theorem partE_one (n : Int × Int) (j : Nat) : (partE n j).oneCell' = true := by unfold partE; split <;> rfl
theorem cells14_one (f : Nat → Int × Int) : (cells14 f).all (·.oneCell') = true := by
  rw [Array.all_eq_true_iff_forall_mem]
  intro v hv
  simp only [cells14, List.mem_toArray, List.mem_map] at hv
  obtain ⟨k, _, rfl⟩ := hv
  exact partE_one _ _
/-- The row in a block. -/
def EndsAt (w : World) (b : Nat) (f : Nat → Int × Int) : Prop := w.heap[b]? = some (.cells (cells14 f) 83 (0, 0))
theorem EndsAt.lt {w : World} {b : Nat} {f : Nat → Int × Int} (h : EndsAt w b f) : b < w.heap.size := by
  have h' : w.heap[b]? = some _ := h
  exact (Array.getElem?_eq_some_iff.1 h').1
theorem EndsAt.cells {w : World} {b : Nat} {f : Nat → Int × Int} (h : EndsAt w b f) {x : Nat} (hx : x < 7) {a p : Int} (he : f x = (a, p)) : w.cell? ⟨b, x * 2, none⟩ = some (.int .i64 a) ∧ w.cell? ⟨b, x * 2 + 1, none⟩ = some (.int .i64 p) := by
  constructor
  · rw [cell_of_row w b _ _ _ _ h, cells14_at f _ (by omega), show (x * 2) / 2 = x by omega, show (x * 2) % 2 = 0 by omega, he]; rfl
  · rw [cell_of_row w b _ _ _ _ h, cells14_at f _ (by omega), show (x * 2 + 1) / 2 = x by omega, show (x * 2 + 1) % 2 = 1 by omega, he]; rfl
theorem EndsAt.thaw {w : World} {b : Nat} {f : Nat → Int × Int} (h : EndsAt w b f) (k : Nat) : w.frozen? ⟨b, k, none⟩ = false := by
  have h' : w.heap[b]? = some _ := h
  simp [World.frozen?, h']
theorem EndsAt.same {w w' : World} {b : Nat} {f : Nat → Int × Int} (h : EndsAt w b f) (hb : w'.heap[b]? = w.heap[b]?) : EndsAt w' b f := hb.trans h
theorem EndsAt.below {w w1 : World} {b B : Nat} {f : Nat → Int × Int} (h : EndsAt w b f) (hb : Below B w w1) (hB : b < B) : EndsAt w1 b f := (hb.block b hB).trans h
theorem EndsAt.alloc {w : World} {b : Nat} {f : Nat → Int × Int} (h : EndsAt w b f) (o : Obj) : EndsAt (w.alloc o) b f := (Below.heap_alloc w o b h.lt).trans h
theorem EndsAt.far {w : World} {b : Nat} {f : Nat → Int × Int} (h : EndsAt w b f) {p : Addr} (v : Value) (hp : b ≠ p.block) : EndsAt (w.setCell p v) b f := (Below.heap_setCell w p v b hp).trans h
theorem cells14_set (f : Nat → Int × Int) (x : Nat) (n : Int × Int) : ((cells14 f |>.setIfInBounds (x * 2) (partE n 0)).setIfInBounds (x * 2 + 1) (partE n 1)) = cells14 (setE f x n) := by
  refine Array.ext_getElem? fun j => ?_
  by_cases hj : j < 14
  · rw [cells14_at _ j hj]
    simp only [Array.getElem?_setIfInBounds, Array.size_setIfInBounds, cells14_size]
    rw [cells14_at _ j hj]
    unfold setE
    by_cases e : j / 2 = x
    · rw [if_pos e]
      rcases (show j = x * 2 ∨ j = x * 2 + 1 by omega) with h | h
      · rw [if_neg (by omega), if_pos h.symm, if_pos (by omega), show j % 2 = 0 by omega]
      · rw [if_pos h.symm, if_pos (by omega), show j % 2 = 1 by omega]
    · rw [if_neg e, if_neg (by omega), if_neg (by omega)]
  · rw [Array.getElem?_eq_none (by simp [cells14_size]; omega), Array.getElem?_eq_none (by simp [cells14_size]; omega)]
theorem EndsAt.set {w : World} {b : Nat} {f : Nat → Int × Int} (h : EndsAt w b f) (x : Nat) (a p : Int) : EndsAt ((w.setCell ⟨b, x * 2, none⟩ (.int .i64 a)).setCell ⟨b, x * 2 + 1, none⟩ (.int .i64 p)) b (setE f x (a, p)) := by
  have h' : w.heap[b]? = some (.cells (cells14 f) 83 (0, 0)) := h
  have h2 := cells14_set f x (a, p)
  simp only [partE] at h2
  unfold EndsAt World.setCell
  simp [Array.getElem?_modify, h', h2]
theorem ends_box (w : World) (f : Nat → Int × Int) : EndsAt (w.alloc (.cells (cells14 f) 83)) w.heap.size f := by
  unfold EndsAt World.alloc
  simp
theorem ends_fresh (w : World) (c : Array Value) (h : cells14 (fun _ => (0, 0)) = c) : EndsAt (w.alloc (.cells c 83)) w.heap.size (fun _ => (0, 0)) := h ▸ ends_box w _
theorem ends_info : (Tryd.prog.info? 83).map (·.size) = some 14 := by kernel_rfl
theorem ends_info' (f : Nat → Int × Int) : (Tryd.prog.info? 83).map (·.size) = some (cells14 f).size := by rw [cells14_size]; exact ends_info
set_option maxHeartbeats 2000000 in
theorem committed_any (f : Nat → Int × Int) (t i : Int) (w : World) (h0 : 0 ≤ t) (h7 : t < 7) :
    Calls Tryd.prog 40 #[.agg (cells14 f), .int .i64 t, .int .i64 i] w fun e w' => e = .returned (.bool (byE f t i 3)) ∧ Below w.heap.size w w' := by
  obtain ⟨⟨a, p⟩, hf⟩ : ∃ n, f t.toNat = n := ⟨_, rfl⟩
  have HE : Hid (byE f t i 3 = (a == 3 && decide (p < i))) := by show byE f t i 3 = _; unfold byE; rw [hf]
  have HF : Hid (f t.toNat = (a, p)) := hf
  clear hf
  go_enter Tryd.func40, Tryd.ntmps40
  go_upto_region 1 with (fail)
  obtain ⟨W, hW⟩ : ∃ W, W = w.alloc (.cells (cells14 f) 83) := ⟨_, rfl⟩
  rw [← hW]
  have hE : EndsAt W w.heap.size f := by rw [hW]; exact ends_box w f
  have HB : Hid (Below w.heap.size w W) := by show Below _ _ _; rw [hW]; exact (Below.refl _ w).alloc (Nat.le_refl _) _
  obtain ⟨d0, d1⟩ := hE.cells (x := t.toNat) (by omega) HF.out
  clear hE hW
  by_cases ha : a = 3
  · subst ha
    by_cases hp : p < i
    · go_wp2_with fail
      go_ret
      exact ⟨by rw [HE.out]; simp [hp], HB.out⟩
    · go_wp2_with fail
      go_ret
      exact ⟨by rw [HE.out]; simp [hp], HB.out⟩
  · have ha' : (a == 3) = false := by simpa using ha
    go_wp2_with fail
    go_ret
    exact ⟨by rw [HE.out, ha']; rfl, HB.out⟩
set_option maxHeartbeats 2000000 in
theorem aborted_any (f : Nat → Int × Int) (t i : Int) (w : World) (h0 : 0 ≤ t) (h7 : t < 7) :
    Calls Tryd.prog 71 #[.agg (cells14 f), .int .i64 t, .int .i64 i] w fun e w' => e = .returned (.bool (byE f t i 4)) ∧ Below w.heap.size w w' := by
  obtain ⟨⟨a, p⟩, hf⟩ : ∃ n, f t.toNat = n := ⟨_, rfl⟩
  have HE : Hid (byE f t i 4 = (a == 4 && decide (p < i))) := by show byE f t i 4 = _; unfold byE; rw [hf]
  have HF : Hid (f t.toNat = (a, p)) := hf
  clear hf
  go_enter Tryd.func71, Tryd.ntmps71
  go_upto_region 1 with (fail)
  obtain ⟨W, hW⟩ : ∃ W, W = w.alloc (.cells (cells14 f) 83) := ⟨_, rfl⟩
  rw [← hW]
  have hE : EndsAt W w.heap.size f := by rw [hW]; exact ends_box w f
  have HB : Hid (Below w.heap.size w W) := by show Below _ _ _; rw [hW]; exact (Below.refl _ w).alloc (Nat.le_refl _) _
  obtain ⟨d0, d1⟩ := hE.cells (x := t.toNat) (by omega) HF.out
  clear hE hW
  by_cases ha : a = 4
  · subst ha
    by_cases hp : p < i
    · go_wp2_with fail
      go_ret
      exact ⟨by rw [HE.out]; simp [hp], HB.out⟩
    · go_wp2_with fail
      go_ret
      exact ⟨by rw [HE.out]; simp [hp], HB.out⟩
  · have ha' : (a == 4) = false := by simpa using ha
    go_wp2_with fail
    go_ret
    exact ⟨by rw [HE.out, ha']; rfl, HB.out⟩
end Go.Proofs.YtlhkjllpgdhnjacDoor

namespace Go.Proofs.YtlhkjllpgdhnjacDoor
open Go.RowKit

theorem wpList_load_row1 {P : Program} {ops : Array Oper} {rest : List Oper} {o : Oper} {a : Act} {w : World} {Q : Exit → Act → World → Prop} (hw : Region.wanted o (yielded ops a.tmps) = true) (ty : TypeId) (x : Operand) (ho : o.op = .load ty x)
    (g : Nat) (hx : a.eval x = .pointer (some ⟨g, 0, none⟩)) (t : TypeId) (cs : Array Value) (fr : Nat × Nat) (d : TypeDesc) (hg : w.heap[g]? = some (.cells cs t fr))
    (hu : P.underlying ty = some d) (hd : (match d with | .struct _ | .array _ _ => true | _ => false) = true) (hi : (P.info? ty).map (·.size) = some cs.size)
    (h : wpList P ops Q rest (a.put o.dst (.agg cs)) w) : wpList P ops Q (o :: rest) a w :=
  Go.BigFrame.wpList_want hw fun _ hK => wp_load_row ty x ho g hx t cs fr d hg hu hd hi (hK _ _ h)
set_option maxHeartbeats 2000000 in
theorem ended_any (f : Nat → Int × Int) (t i : Int) (w : World) (h0 : 0 ≤ t) (h7 : t < 7) :
    Calls Tryd.prog 43 #[.agg (cells14 f), .int .i64 t, .int .i64 i] w fun e w' => e = .returned (.bool (byE f t i 3 || byE f t i 4)) ∧ Below w.heap.size w w' := by
  go_enter Tryd.func43, Tryd.ntmps43
  go_upto_region 1 with (fail)
  obtain ⟨W, hW⟩ : ∃ W, W = w.alloc (.cells (cells14 f) 83) := ⟨_, rfl⟩
  rw [← hW]
  have HE : Hid (EndsAt W w.heap.size f) := by show EndsAt W _ f; rw [hW]; exact ends_box w f
  have HB : Hid (Below w.heap.size w W) := by show Below _ _ _; rw [hW]; exact (Below.refl _ w).alloc (Nat.le_refl _) _
  clear hW
  go_wp2_with (refine wpList_load_row rfl 83 (.tmp 3) rfl w.heap.size rfl 83 (cells14 f) (0, 0) _ HE.out Tryd.underlying83 rfl (ends_info' _) ?_)
  refine (committed_any f t i _ h0 h7).mono ?_
  rintro e w1 ⟨rfl, hb1⟩
  have HE1 : Hid (EndsAt w1 w.heap.size f) := HE.out.below hb1 HE.out.lt
  have HB1 : Hid (Below w.heap.size w w1) := HB.out.trans (hb1.mono HB.out.size)
  clear hb1
  cases hq : byE f t i 3 with
  | true =>
    have HQ : Hid (byE f t i 3 = true) := hq
    clear hq
    go_wp2_with fail
    go_ret
    exact ⟨by rw [HQ.out]; rfl, HB1.out⟩
  | false =>
    have HQ : Hid (byE f t i 3 = false) := hq
    clear hq
    go_wp2_with (refine wpList_load_row1 rfl 83 (.tmp 3) rfl w.heap.size rfl 83 (cells14 f) (0, 0) _ HE1.out Tryd.underlying83 rfl (ends_info' _) ?_)
    refine (aborted_any f t i _ h0 h7).mono ?_
    rintro e w2 ⟨rfl, hb2⟩
    have HB2 : Hid (Below w.heap.size w w2) := HB1.out.trans (hb2.mono HB1.out.size)
    clear hb2
    go_wp2_with fail
    go_ret
    exact ⟨by rw [HQ.out]; rfl, HB2.out⟩
set_option maxHeartbeats 4000000 in
theorem endsOf_any (l : List Op3) (v : Value) (w : World) (hI : IsOps w v l) (hl : l.length ≤ 40) (hop : ∀ o ∈ l, isOpB o = true) :
    Calls Tryd.prog 35 #[v] w fun e w' => e = .returned (.agg (cells14 (endE l l.length))) ∧ Below w.heap.size w w' := by
  obtain ⟨ad, b, off, cap, rfl, ha, -, hbB, hops⟩ := hI
  have HO : Hid (∀ W, Below w.heap.size w W → ∀ k, k < l.length → ad = some ⟨b, off, none⟩ ∧ W.cell? ⟨b, off + k * 3, none⟩ = some (.int .i64 (opAt l k).1) ∧ W.cell? ⟨b, off + k * 3 + 1, none⟩ = some (.int .i64 (opAt l k).2.1) ∧ W.cell? ⟨b, off + k * 3 + 2, none⟩ = some (.int .i64 (opAt l k).2.2)) := fun W hW k hk => ⟨ha (by omega), (hops.below hW hbB) k hk⟩
  have HOP : Hid (∀ o ∈ l, isOpB o = true) := hop
  clear ha hbB hops hop
  go_enter Tryd.func35, Tryd.ntmps35
  go_wp2
  go_loopw [8] (fun v8 wr => ∃ k : Nat, k ≤ l.length ∧ v8 = .int .i64 k ∧ Below w.heap.size w wr ∧ EndsAt wr w.heap.size (fun _ => (0, 0)) ∧ EndsAt wr (w.heap.size + 1) (endE l k)) (fun v8 _ => l.length - (intOf v8).toNat)
  case atStart =>
    refine ⟨0, Nat.zero_le _, rfl, ((Below.refl _ w).alloc (Nat.le_refl _) _).alloc (by simp) _, (ends_fresh w _ rfl).alloc _, ?_⟩
    have h1 := ends_fresh (w.alloc (.cells (cells14 fun _ => (0, 0)) 83)) _ rfl
    rw [show (w.alloc (.cells (cells14 fun _ => (0, 0)) 83)).heap.size = w.heap.size + 1 by simp] at h1
    exact h1
  case round =>
    obtain ⟨k, hk, rfl, hbel, hz, hs⟩ := hrel
    have hB1 := hs.lt
    have HZ : Hid (EndsAt wr w.heap.size (fun _ => (0, 0))) := hz
    have HS : Hid (EndsAt wr (w.heap.size + 1) (endE l k)) := hs
    have HBW : Hid (Below w.heap.size w wr) := hbel
    clear hz hs
    by_cases hlt : k < l.length
    · have hlt' : (k : Int) < (l.length : Int) := by omega
      obtain ⟨hadr, c0, c1, c2⟩ := HO.out wr hbel k hlt
      subst hadr
      obtain ⟨⟨t, a, x⟩, ho⟩ : ∃ o : Op3, opAt l k = o := ⟨_, rfl⟩
      have hisop := HOP.out _ (opAt_mem hlt)
      rw [ho] at c0 c1 c2 hisop
      obtain ⟨ht1, ht6⟩ := isOp_tx hisop
      have HOA : Hid (opAt l k = (t, a, x)) := ho
      simp only at c0 c1 c2 ht1 ht6
      clear ho hisop hbel
      go_upto_region 5 with (fail)
      obtain ⟨W, hW⟩ : ∃ W, W = wr.alloc (.cells #[.int .i64 t, .int .i64 a, .int .i64 x] 29) := ⟨_, rfl⟩
      rw [← hW]
      obtain ⟨P, hP⟩ : ∃ P, P = wr.heap.size := ⟨_, rfl⟩
      rw [← hP]
      have p0 : W.cell? ⟨P, 0, none⟩ = some (.int .i64 t) := by rw [hW, hP]; simp
      have p1 : W.cell? ⟨P, 1, none⟩ = some (.int .i64 a) := by rw [hW, hP]; simp
      have hbw : Below wr.heap.size wr W := by rw [hW]; exact (Below.refl _ wr).alloc (Nat.le_refl _) _
      have HZW : Hid (EndsAt W w.heap.size (fun _ => (0, 0))) := HZ.out.below hbw (by omega)
      have HSW : Hid (EndsAt W (w.heap.size + 1) (endE l k)) := HS.out.below hbw hB1
      have HBW2 : Hid (Below w.heap.size w W) := HBW.out.trans (hbw.mono HBW.out.size)
      have hPB : w.heap.size + 1 < P := by omega
      clear hW hP hbw HZ HS c0 c1 c2 HBW
      by_cases he : a = 3 ∨ a = 4
      · have HF : Hid (endE l (k + 1) = setE (endE l k) t.toNat (a, (k : Int))) := by
          show endE l (k + 1) = _
          rw [endE_yes (by rw [HOA.out]; rcases he with e | e <;> (simp only [e]; rfl)), HOA.out]
        obtain ⟨⟨q1, q2⟩, hq⟩ : ∃ n, endE l k t.toNat = n := ⟨_, rfl⟩
        obtain ⟨d0, d1⟩ := HSW.out.cells (x := t.toNat) (by omega) hq
        have y0 := HSW.out.thaw (t.toNat * 2)
        have y1 := HSW.out.thaw (t.toNat * 2 + 1)
        have ht0 : 0 ≤ t := by omega
        have ht7 : t < 7 := by omega
        have HLN : Hid (EndsAt ((W.setCell ⟨w.heap.size + 1, t.toNat * 2, none⟩ (.int .i64 a)).setCell ⟨w.heap.size + 1, t.toNat * 2 + 1, none⟩ (.int .i64 k)) (w.heap.size + 1) (endE l (k + 1))) := by
          rw [HF.out]
          exact HSW.out.set t.toNat a k
        have HBN : Hid (Below (w.heap.size + 1) W ((W.setCell ⟨w.heap.size + 1, t.toNat * 2, none⟩ (.int .i64 a)).setCell ⟨w.heap.size + 1, t.toNat * 2 + 1, none⟩ (.int .i64 k))) := by
          refine ((Below.refl (w.heap.size + 1) W).setCell ?_ _).setCell ?_ _ <;> exact Nat.le_refl _
        clear hq
        rcases he with rfl | rfl
        · go_wp2_with fail
          go_roundw
          case rel => exact ⟨k + 1, by omega, by go_num, HBW2.out.trans (HBN.out.mono (by omega)), HZW.out.below HBN.out (by omega), HLN.out⟩
          case measure => simp [intOf]; omega
        · go_wp2_with fail
          go_roundw
          case rel => exact ⟨k + 1, by omega, by go_num, HBW2.out.trans (HBN.out.mono (by omega)), HZW.out.below HBN.out (by omega), HLN.out⟩
          case measure => simp [intOf]; omega
      · have he3 : (a == 3) = false := beq_eq_false_iff_ne.2 fun e => he (.inl e)
        have he4 : (a == 4) = false := beq_eq_false_iff_ne.2 fun e => he (.inr e)
        have HF : Hid (endE l (k + 1) = endE l k) := endE_no (by rw [HOA.out]; show (a == 3 || a == 4) = false; rw [he3, he4]; rfl)
        clear he
        go_wp2_with fail
        go_roundw
        case rel => exact ⟨k + 1, by omega, by go_num, HBW2.out, HZW.out, by rw [HF.out]; exact HSW.out⟩
        case measure => simp [intOf]; omega
    · have hlt' : ¬ (k : Int) < (l.length : Int) := by omega
      obtain rfl : k = l.length := by omega
      clear hbel
      go_wp2_with (first | refine wpList_load_row rfl 83 (.tmp 3) rfl (w.heap.size + 1) rfl 83 (cells14 (endE l l.length)) (0, 0) _ HS.out Tryd.underlying83 rfl (ends_info' _) ?_ | refine wpList_store_row rfl 83 (.tmp 2) (.tmp 29) rfl w.heap.size (cells14 (endE l l.length)) rfl rfl 83 (cells14 fun _ => (0, 0)) HZ.out (ends_info' _) (by rw [cells14_size, cells14_size]) (cells14_one _) ?_)
      exact bodyPost_ret (v := .agg (cells14 (endE l l.length))) (results_cell_row Tryd.results35 _ _ w.heap.size 83 (cells14 (endE l l.length)) (0, 0) _ rfl (setRow_heap _ _ _ _ _ _ HZ.out) Tryd.underlying83 rfl (ends_info' _)) rfl ⟨rfl, below_setRow HBW.out (Nat.le_refl _) _⟩
end Go.Proofs.YtlhkjllpgdhnjacDoor
