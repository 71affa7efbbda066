/-
  PROVED HERE: laneref1.Faces answers as the plain functions recB, cauB, strB and rigB say. Old memory stays as it was.
  Conditions: the list is short.
-/
import Derived.Test.YtjaeaanpbdmfgacDoorRefFaces1
import Derived.Deep.Cut
import Derived.Deep.CutRange
import Derived.Laws.Rows
namespace Go.Proofs.YtjaeaanpbdmfgacDoor
open Go.RowKit

def allTo (p : Nat → Bool) (k : Nat) : Bool := (List.range k).all p
theorem allTo_succ (p : Nat → Bool) (k : Nat) : allTo p (k + 1) = (allTo p k && p k) := by
  unfold allTo
  rw [List.range_succ, List.all_append]
  simp
/-- Four bools in a block. -/
def FacesAt (w : World) (b : Nat) (p q r s : Bool) : Prop := w.heap[b]? = some (.cells #[.bool p, .bool q, .bool r, .bool s] 34 (0, 0))
theorem FacesAt.lt {w : World} {b : Nat} {p q r s : Bool} (h : FacesAt w b p q r s) : b < w.heap.size := by
  have h' : w.heap[b]? = some _ := h
  exact (Array.getElem?_eq_some_iff.1 h').1
theorem FacesAt.below {w w1 : World} {b B : Nat} {p q r s : Bool} (h : FacesAt w b p q r s) (hb : Below B w w1) (hB : b < B) : FacesAt w1 b p q r s := (hb.block b hB).trans h
theorem FacesAt.far {w : World} {b : Nat} {p q r s : Bool} (h : FacesAt w b p q r s) {a : Addr} (v : Value) (hp : b ≠ a.block) : FacesAt (w.setCell a v) b p q r s := (Below.heap_setCell w a v b hp).trans h
theorem FacesAt.cells {w : World} {b : Nat} {p q r s : Bool} (h : FacesAt w b p q r s) : w.cell? ⟨b, 0, none⟩ = some (.bool p) ∧ w.cell? ⟨b, 1, none⟩ = some (.bool q) ∧ w.cell? ⟨b, 2, none⟩ = some (.bool r) ∧ w.cell? ⟨b, 3, none⟩ = some (.bool s) :=
  ⟨by rw [cell_of_row w b _ _ _ _ h]; rfl, by rw [cell_of_row w b _ _ _ _ h]; rfl, by rw [cell_of_row w b _ _ _ _ h]; rfl, by rw [cell_of_row w b _ _ _ _ h]; rfl⟩
theorem FacesAt.thaw {w : World} {b : Nat} {p q r s : Bool} (h : FacesAt w b p q r s) (k : Nat) : w.frozen? ⟨b, k, none⟩ = false := by
  have h' : w.heap[b]? = some _ := h
  simp [World.frozen?, h']
theorem FacesAt.set0 {w : World} {b : Nat} {p q r s : Bool} (h : FacesAt w b p q r s) (v : Bool) : FacesAt (w.setCell ⟨b, 0, none⟩ (.bool v)) b v q r s := by
  have h' : w.heap[b]? = some (.cells #[.bool p, .bool q, .bool r, .bool s] 34 (0, 0)) := h
  unfold FacesAt World.setCell
  rw [Array.getElem?_modify]
  simp [h']
theorem FacesAt.set1 {w : World} {b : Nat} {p q r s : Bool} (h : FacesAt w b p q r s) (v : Bool) : FacesAt (w.setCell ⟨b, 1, none⟩ (.bool v)) b p v r s := by
  have h' : w.heap[b]? = some (.cells #[.bool p, .bool q, .bool r, .bool s] 34 (0, 0)) := h
  unfold FacesAt World.setCell
  rw [Array.getElem?_modify]
  simp [h']
theorem FacesAt.set2 {w : World} {b : Nat} {p q r s : Bool} (h : FacesAt w b p q r s) (v : Bool) : FacesAt (w.setCell ⟨b, 2, none⟩ (.bool v)) b p q v s := by
  have h' : w.heap[b]? = some (.cells #[.bool p, .bool q, .bool r, .bool s] 34 (0, 0)) := h
  unfold FacesAt World.setCell
  rw [Array.getElem?_modify]
  simp [h']
theorem FacesAt.set3 {w : World} {b : Nat} {p q r s : Bool} (h : FacesAt w b p q r s) (v : Bool) : FacesAt (w.setCell ⟨b, 3, none⟩ (.bool v)) b p q r v := by
  have h' : w.heap[b]? = some (.cells #[.bool p, .bool q, .bool r, .bool s] 34 (0, 0)) := h
  unfold FacesAt World.setCell
  rw [Array.getElem?_modify]
  simp [h']
theorem faces_box (w : World) (p q r s : Bool) : FacesAt (w.alloc (.cells #[.bool p, .bool q, .bool r, .bool s] 34)) w.heap.size p q r s := by
  unfold FacesAt World.alloc
  simp
theorem FacesAt.alloc {w : World} {b : Nat} {p q r s : Bool} (h : FacesAt w b p q r s) (o : Obj) : FacesAt (w.alloc o) b p q r s := (Below.heap_alloc w o b h.lt).trans h
/-- An op in a block. -/
def OpIn (w : World) (P : Nat) (t a x : Int) : Prop := w.cell? ⟨P, 0, none⟩ = some (.int .i64 t) ∧ w.cell? ⟨P, 1, none⟩ = some (.int .i64 a) ∧ w.cell? ⟨P, 2, none⟩ = some (.int .i64 x)
theorem OpIn.below {w w1 : World} {P B : Nat} {t a x : Int} (h : OpIn w P t a x) (hb : Below B w w1) (hB : P < B) : OpIn w1 P t a x :=
  ⟨(hb.cell (p := ⟨P, 0, none⟩) hB).trans h.1, (hb.cell (p := ⟨P, 1, none⟩) hB).trans h.2.1, (hb.cell (p := ⟨P, 2, none⟩) hB).trans h.2.2⟩
theorem OpIn.set {w : World} {P F j : Nat} {t a x : Int} (h : OpIn w P t a x) (hne : P ≠ F) (v : Value) : OpIn (w.setCell ⟨F, j, none⟩ v) P t a x :=
  ⟨(World.cell?_setCell_other _ _ _ _ (by intro he; injection he with h1; exact hne h1.symm)).trans h.1, (World.cell?_setCell_other _ _ _ _ (by intro he; injection he with h1; exact hne h1.symm)).trans h.2.1, (World.cell?_setCell_other _ _ _ _ (by intro he; injection he with h1; exact hne h1.symm)).trans h.2.2⟩
/-- Memory in a round: the answer so far, the result's place, the op. -/
structure Turn (w0 w : World) (P : Nat) (t a x : Int) (p q r s : Bool) : Prop where
  now : FacesAt w (w0.heap.size + 1) p q r s
  res : FacesAt w w0.heap.size false false false false
  op : OpIn w P t a x
  old : Below w0.heap.size w0 w
  gt : w0.heap.size + 1 < P
theorem Turn.below {w0 w w1 : World} {P : Nat} {t a x : Int} {p q r s : Bool} (h : Turn w0 w P t a x p q r s) (hb : Below w.heap.size w w1) : Turn w0 w1 P t a x p q r s :=
  have hP : P < w.heap.size := World.block_lt_of_cell? w _ h.op.1
  ⟨h.now.below hb h.now.lt, h.res.below hb h.res.lt, h.op.below hb hP, h.old.trans (hb.mono h.old.size), h.gt⟩
theorem Turn.set0 {w0 w : World} {P : Nat} {t a x : Int} {p q r s : Bool} (h : Turn w0 w P t a x p q r s) : Turn w0 (w.setCell ⟨w0.heap.size + 1, 0, none⟩ (.bool false)) P t a x false q r s :=
  ⟨h.now.set0 _, h.res.far _ (by simp), h.op.set (by have := h.gt; omega) _, h.old.setCell (by exact Nat.le_succ _) _, h.gt⟩
theorem Turn.set1 {w0 w : World} {P : Nat} {t a x : Int} {p q r s : Bool} (h : Turn w0 w P t a x p q r s) : Turn w0 (w.setCell ⟨w0.heap.size + 1, 1, none⟩ (.bool false)) P t a x p false r s :=
  ⟨h.now.set1 _, h.res.far _ (by simp), h.op.set (by have := h.gt; omega) _, h.old.setCell (by exact Nat.le_succ _) _, h.gt⟩
theorem Turn.set2 {w0 w : World} {P : Nat} {t a x : Int} {p q r s : Bool} (h : Turn w0 w P t a x p q r s) : Turn w0 (w.setCell ⟨w0.heap.size + 1, 2, none⟩ (.bool false)) P t a x p q false s :=
  ⟨h.now.set2 _, h.res.far _ (by simp), h.op.set (by have := h.gt; omega) _, h.old.setCell (by exact Nat.le_succ _) _, h.gt⟩
theorem Turn.set3 {w0 w : World} {P : Nat} {t a x : Int} {p q r s : Bool} (h : Turn w0 w P t a x p q r s) : Turn w0 (w.setCell ⟨w0.heap.size + 1, 3, none⟩ (.bool false)) P t a x p q r false :=
  ⟨h.now.set3 _, h.res.far _ (by simp), h.op.set (by have := h.gt; omega) _, h.old.setCell (by exact Nat.le_succ _) _, h.gt⟩

theorem faces_info : (Tryd.prog.info? 34).map (·.size) = some 4 := by kernel_rfl
set_option maxHeartbeats 16000000 in
set_option maxRecDepth 100000 in
theorem refFaces_any (l : List Op3) (v : Value) (w : World) (hI : IsOps w v l) (hl : l.length ≤ 40) :
    Calls Tryd.prog 9 #[v] w fun e w' => e = .returned (.agg #[.bool (recB l), .bool (cauB l), .bool (strB l), .bool (rigB l)]) ∧ Below w.heap.size w w' := by
  have HIO : Hid (∀ W, Below w.heap.size w W → IsOps W v l) := fun W hW => hI.below hW (Nat.le_refl _)
  obtain ⟨ad, b, off, cap, rfl, ha, -, hbB, hops⟩ := hI
  have HE : Hid (∀ W, Below w.heap.size w W → ∀ k, k < l.length → ad = some ⟨b, off, none⟩ ∧ W.cell? ⟨b, off + k * 3, none⟩ = some (.int .i64 (opAt l k).1) ∧ W.cell? ⟨b, off + k * 3 + 1, none⟩ = some (.int .i64 (opAt l k).2.1) ∧ W.cell? ⟨b, off + k * 3 + 2, none⟩ = some (.int .i64 (opAt l k).2.2)) := fun W hW k hk => ⟨ha (by omega), (hops.below hW hbB) k hk⟩
  clear ha hbB hops
  go_enter Tryd.func9, Tryd.ntmps9
  go_wp2_with fail
  go_loopw [4] (fun v4 wr => ∃ i : Nat, i ≤ l.length ∧ v4 = .int .i64 i ∧ FacesAt wr (w.heap.size + 1) (allTo (recAt l) i) (allTo (cauAt l) i) (allTo (strAt l) i) (allTo (rigAt l) i) ∧ FacesAt wr w.heap.size false false false false ∧ Below w.heap.size w wr) (fun v4 _ => l.length - (intOf v4).toNat)
  case atStart =>
    refine ⟨0, Nat.zero_le _, rfl, ?_, (faces_box w false false false false).alloc _, ((Below.refl _ w).alloc (Nat.le_refl _) _).alloc (by simp) _⟩
    have h1 := faces_box (w.alloc (.cells #[.bool false, .bool false, .bool false, .bool false] 34)) true true true true
    rw [show (w.alloc (.cells #[.bool false, .bool false, .bool false, .bool false] 34)).heap.size = w.heap.size + 1 by simp] at h1
    exact h1
  case round =>
    obtain ⟨i, hi, rfl, hnow, hres, hbel⟩ := hrel
    obtain ⟨p, hp⟩ : ∃ p, allTo (recAt l) i = p := ⟨_, rfl⟩
    obtain ⟨q, hq⟩ : ∃ q, allTo (cauAt l) i = q := ⟨_, rfl⟩
    obtain ⟨r, hr⟩ : ∃ r, allTo (strAt l) i = r := ⟨_, rfl⟩
    obtain ⟨s, hs⟩ : ∃ s, allTo (rigAt l) i = s := ⟨_, rfl⟩
    rw [hp, hq, hr, hs] at hnow
    have HPQ : Hid (allTo (recAt l) i = p ∧ allTo (cauAt l) i = q ∧ allTo (strAt l) i = r ∧ allTo (rigAt l) i = s) := ⟨hp, hq, hr, hs⟩
    have HNOW : Hid (FacesAt wr (w.heap.size + 1) p q r s) := hnow
    have HRES : Hid (FacesAt wr w.heap.size false false false false) := hres
    have hFl := hnow.lt
    clear hp hq hr hs hnow hres
    by_cases hlt : i < l.length
    · have hlt' : (i : Int) < (l.length : Int) := by omega
      obtain ⟨hadr, c0, c1, c2⟩ := HE.out wr hbel i hlt
      subst hadr
      obtain ⟨⟨t, a, x⟩, ho⟩ : ∃ o : Op3, opAt l i = o := ⟨_, rfl⟩
      rw [ho] at c0 c1 c2
      simp only at c0 c1 c2
      have HO : Hid (opAt l i = (t, a, x)) := ho
      clear ho
      go_upto_region 6 with (fail)
      obtain ⟨W, hW⟩ : ∃ W, W = wr.alloc (.cells #[.int .i64 t, .int .i64 a, .int .i64 x] 29) := ⟨_, rfl⟩
      rw [← hW]
      obtain ⟨P, hP⟩ : ∃ P, P = wr.heap.size := ⟨_, rfl⟩
      rw [← hP]
      have hbW : Below wr.heap.size wr W := by rw [hW]; exact (Below.refl _ wr).alloc (Nat.le_refl _) _
      have HT : Hid (Turn w W P t a x p q r s) := ⟨HNOW.out.below hbW hFl, HRES.out.below hbW (by omega), by rw [hW, hP]; exact ⟨by simp, by simp, by simp⟩, hbel.trans (hbW.mono (by omega)), by omega⟩
      have o1 := HT.out.op.2.1
      clear hW hP hbW HNOW HRES hFl c0 c1 c2 hbel
      by_cases ha2 : 2 < a
      · have HN : Hid (recAt l i = true ∧ cauAt l i = true ∧ strAt l i = true ∧ rigAt l i = true) := by
          have e1 : ((opAt l i).2.1 == 1) = false := by rw [HO.out]; show (a == 1) = false; simp; omega
          have e2 : decide ((opAt l i).2.1 ≤ 2) = false := by rw [HO.out]; show decide (a ≤ 2) = false; simp; omega
          refine ⟨?_, ?_, ?_, ?_⟩
          · unfold recAt; rw [e1]; rfl
          · unfold cauAt; rw [e1]; rfl
          · unfold strAt; rw [e2]; rfl
          · unfold rigAt; rw [e2]; rfl
        go_wp2_with fail
        go_roundw
        case rel =>
          refine ⟨i + 1, by omega, by go_num, ?_, HT.out.res, HT.out.old⟩
          rw [allTo_succ, allTo_succ, allTo_succ, allTo_succ, HPQ.out.1, HPQ.out.2.1, HPQ.out.2.2.1, HPQ.out.2.2.2, HN.out.1, HN.out.2.1, HN.out.2.2.1, HN.out.2.2.2, Bool.and_true, Bool.and_true, Bool.and_true, Bool.and_true]
          exact HT.out.now
        case measure => simp [intOf]; omega
      · go_upto_if 27 with fail
        go_cut [80] from 12 (fun s80 W => s80 = undef ∧ Turn w W P t a x (p && recAt l i) (q && cauAt l i) r s)
        case rest =>
          obtain ⟨hs80, hcut⟩ := hcut
          subst hs80
          have HTC : Hid (Turn w wc P t a x (p && recAt l i) (q && cauAt l i) r s) := hcut
          clear hcut o1 HT
          go_wp2_with fail
          refine (open_any l _ i 2 _ (HIO.out _ HTC.out.old) hl hlt).mono ?_
          rintro e w1 ⟨rfl, hb1⟩
          have HT1 : Hid (Turn w w1 P t a x (p && recAt l i) (q && cauAt l i) r s) := HTC.out.below hb1
          clear hb1 HTC
          cases hd2 : openB l i 2 with
          | true =>
            have HR2 : Hid (openB l i 2 = true) := hd2
            clear hd2
            obtain ⟨-, -, k2, k3⟩ := HT1.out.now.cells
            have z2 := HT1.out.now.thaw 2
            have z3 := HT1.out.now.thaw 3
            have HT2 : Hid (Turn w ((w1.setCell ⟨w.heap.size + 1, 2, none⟩ (.bool false)).setCell ⟨w.heap.size + 1, 3, none⟩ (.bool false)) P t a x (p && recAt l i) (q && cauAt l i) false false) := HT1.out.set2.set3
            go_upto_region 20 with (fail)
            obtain ⟨w2, hw2⟩ : ∃ w2, w2 = (w1.setCell ⟨w.heap.size + 1, 2, none⟩ (.bool false)).setCell ⟨w.heap.size + 1, 3, none⟩ (.bool false) := ⟨_, rfl⟩
            rw [← hw2] at HT2 ⊢
            clear hw2 k2 k3 z2 z3 HT1
            go_wp2_with fail
            refine (open_any l _ i 1 _ (HIO.out _ HT2.out.old) hl hlt).mono ?_
            rintro e w3 ⟨rfl, hb3⟩
            have HT3 : Hid (Turn w w3 P t a x (p && recAt l i) (q && cauAt l i) false false) := HT2.out.below hb3
            have o3 := HT3.out.op.2.1
            clear hb3 HT2
            obtain ⟨d1, hd1⟩ : ∃ d1, openB l i 1 = d1 := ⟨_, rfl⟩
            rw [hd1]
            have HSR : Hid (strAt l i = false ∧ rigAt l i = false) := by
              constructor
              · unfold strAt; rw [HO.out, HR2.out, show decide ((t, a, x).2.1 ≤ 2) = true from decide_eq_true (by show a ≤ 2; omega)]; rfl
              · unfold rigAt; rw [HO.out, HR2.out, hd1, show decide ((t, a, x).2.1 ≤ 2) = true from decide_eq_true (by show a ≤ 2; omega)]; rfl
            clear hd1
            cases ha22 : (a == 2) with
            | false =>
              go_wp2_with fail
              go_roundw
              case rel =>
                refine ⟨i + 1, by omega, by go_num, ?_, HT3.out.res, HT3.out.old⟩
                rw [allTo_succ, allTo_succ, allTo_succ, allTo_succ, HPQ.out.1, HPQ.out.2.1, HPQ.out.2.2.1, HPQ.out.2.2.2, HSR.out.1, HSR.out.2]
                rw [Bool.and_false, Bool.and_false]; exact HT3.out.now
              case measure => simp [intOf]; omega
            | true =>
              cases d1 with
              | false =>
                go_wp2_with fail
                go_roundw
                case rel =>
                  refine ⟨i + 1, by omega, by go_num, ?_, HT3.out.res, HT3.out.old⟩
                  rw [allTo_succ, allTo_succ, allTo_succ, allTo_succ, HPQ.out.1, HPQ.out.2.1, HPQ.out.2.2.1, HPQ.out.2.2.2, HSR.out.1, HSR.out.2]
                  rw [Bool.and_false, Bool.and_false]; exact HT3.out.now
                case measure => simp [intOf]; omega
              | true =>
                obtain ⟨-, -, -, k3⟩ := HT3.out.now.cells
                have z3 := HT3.out.now.thaw 3
                have HT4 : Hid (Turn w (w3.setCell ⟨w.heap.size + 1, 3, none⟩ (.bool false)) P t a x (p && recAt l i) (q && cauAt l i) false false) := HT3.out.set3
                go_wp2_with fail
                go_roundw
                case rel =>
                  refine ⟨i + 1, by omega, by go_num, ?_, HT4.out.res, HT4.out.old⟩
                  rw [allTo_succ, allTo_succ, allTo_succ, allTo_succ, HPQ.out.1, HPQ.out.2.1, HPQ.out.2.2.1, HPQ.out.2.2.2, HSR.out.1, HSR.out.2]
                  rw [Bool.and_false, Bool.and_false]; exact HT4.out.now
                case measure => simp [intOf]; omega
          | false =>
            have HR2 : Hid (openB l i 2 = false) := hd2
            clear hd2
            obtain ⟨w2, hw2⟩ : ∃ w2, w2 = w1 := ⟨_, rfl⟩
            have HT2 : Hid (Turn w w2 P t a x (p && recAt l i) (q && cauAt l i) r s) := by rw [hw2]; exact HT1.out
            go_upto_region 20 with (fail)
            rw [← hw2]
            clear hw2 HT1
            go_wp2_with fail
            refine (open_any l _ i 1 _ (HIO.out _ HT2.out.old) hl hlt).mono ?_
            rintro e w3 ⟨rfl, hb3⟩
            have HT3 : Hid (Turn w w3 P t a x (p && recAt l i) (q && cauAt l i) r s) := HT2.out.below hb3
            have o3 := HT3.out.op.2.1
            clear hb3 HT2
            obtain ⟨d1, hd1⟩ : ∃ d1, openB l i 1 = d1 := ⟨_, rfl⟩
            rw [hd1]
            have HSR : Hid (strAt l i = true ∧ rigAt l i = !(a == 2 && d1)) := by
              constructor
              · unfold strAt; rw [HO.out, HR2.out, show decide ((t, a, x).2.1 ≤ 2) = true from decide_eq_true (by show a ≤ 2; omega)]; rfl
              · unfold rigAt; rw [HO.out, HR2.out, hd1, show decide ((t, a, x).2.1 ≤ 2) = true from decide_eq_true (by show a ≤ 2; omega)]; rfl
            clear hd1
            cases ha22 : (a == 2) with
            | false =>
              rw [ha22] at HSR
              go_wp2_with fail
              go_roundw
              case rel =>
                refine ⟨i + 1, by omega, by go_num, ?_, HT3.out.res, HT3.out.old⟩
                rw [allTo_succ, allTo_succ, allTo_succ, allTo_succ, HPQ.out.1, HPQ.out.2.1, HPQ.out.2.2.1, HPQ.out.2.2.2, HSR.out.1, HSR.out.2]
                rw [show (!(false && d1)) = true from rfl, Bool.and_true, Bool.and_true]; exact HT3.out.now
              case measure => simp [intOf]; omega
            | true =>
              rw [ha22] at HSR
              cases d1 with
              | false =>
                go_wp2_with fail
                go_roundw
                case rel =>
                  refine ⟨i + 1, by omega, by go_num, ?_, HT3.out.res, HT3.out.old⟩
                  rw [allTo_succ, allTo_succ, allTo_succ, allTo_succ, HPQ.out.1, HPQ.out.2.1, HPQ.out.2.2.1, HPQ.out.2.2.2, HSR.out.1, HSR.out.2]
                  rw [show (!(true && false)) = true from rfl, Bool.and_true, Bool.and_true]; exact HT3.out.now
                case measure => simp [intOf]; omega
              | true =>
                obtain ⟨-, -, -, k3⟩ := HT3.out.now.cells
                have z3 := HT3.out.now.thaw 3
                have HT4 : Hid (Turn w (w3.setCell ⟨w.heap.size + 1, 3, none⟩ (.bool false)) P t a x (p && recAt l i) (q && cauAt l i) r false) := HT3.out.set3
                go_wp2_with fail
                go_roundw
                case rel =>
                  refine ⟨i + 1, by omega, by go_num, ?_, HT4.out.res, HT4.out.old⟩
                  rw [allTo_succ, allTo_succ, allTo_succ, allTo_succ, HPQ.out.1, HPQ.out.2.1, HPQ.out.2.2.1, HPQ.out.2.2.2, HSR.out.1, HSR.out.2]
                  rw [show (!(true && true)) = false from rfl, Bool.and_true, Bool.and_false]; exact HT4.out.now
                case measure => simp [intOf]; omega
        case first =>
          cases ha1 : (a == 1) with
          | false =>
            have HN : Hid (recAt l i = true ∧ cauAt l i = true) := by
              constructor
              · unfold recAt; rw [HO.out]; show (!(a == 1 && _)) = true; rw [ha1]; rfl
              · unfold cauAt; rw [HO.out]; show (!(a == 1 && _)) = true; rw [ha1]; rfl
            go_wp2_with fail
            go_meet
            case rel =>
              rw [HN.out.1, HN.out.2, Bool.and_true, Bool.and_true]
              exact ⟨rfl, HT.out⟩
          | true =>
            obtain rfl : a = 1 := by simpa using ha1
            clear ha1 o1
            go_wp2_with fail
            refine (from_any l _ i _ (HIO.out _ HT.out.old) hl hlt).mono ?_
            rintro e w1 ⟨rfl, hb1⟩
            have HT1 : Hid (Turn w w1 P t 1 x p q r s) := HT.out.below hb1
            have o0 := HT1.out.op.1
            clear hb1 HT
            obtain ⟨f, hf⟩ : ∃ f, fromI l i = f := ⟨_, rfl⟩
            have HF : Hid (fromI l i = f) := hf
            rw [hf]
            clear hf
            cases hf0 : (f != 0) with
            | false =>
              have HN : Hid (recAt l i = true ∧ cauAt l i = true) := by
                constructor
                · unfold recAt; rw [HO.out, HF.out, hf0]; rfl
                · unfold cauAt; rw [HO.out, HF.out, hf0]; rfl
              go_wp2_with fail
              go_meet
              case rel =>
                rw [HN.out.1, HN.out.2, Bool.and_true, Bool.and_true]
                exact ⟨rfl, HT1.out⟩
            | true =>
              cases hft : (f != t) with
              | false =>
                have HN : Hid (recAt l i = true ∧ cauAt l i = true) := by
                  constructor
                  · unfold recAt; rw [HO.out, HF.out, hf0]; show (!(_ && (true && (f != t && _)))) = true; rw [hft]; rfl
                  · unfold cauAt; rw [HO.out, HF.out, hf0]; show (!(_ && (true && (f != t && _)))) = true; rw [hft]; rfl
                go_wp2_with fail
                go_meet
                case rel =>
                  rw [HN.out.1, HN.out.2, Bool.and_true, Bool.and_true]
                  exact ⟨rfl, HT1.out⟩
              | true =>
                obtain ⟨mi, hmi⟩ : ∃ mi, whenI l t = mi := ⟨_, rfl⟩
                obtain ⟨it, hit⟩ : ∃ it, whenI l f = it := ⟨_, rfl⟩
                obtain ⟨en, hen⟩ : ∃ en, endBy l f i = en := ⟨_, rfl⟩
                have HREC : Hid (recAt l i = !(decide (0 ≤ mi) && (decide (it < 0) || decide (mi < it)))) := by
                  show recAt l i = _
                  unfold recAt; rw [HO.out, HF.out, hf0]; show (!(true && (true && (f != t && (decide (0 ≤ whenI l t) && _))))) = _; rw [hft, hmi, hit]; rfl
                have HCAU : Hid (cauAt l i = !(en != 3)) := by
                  show cauAt l i = _
                  unfold cauAt; rw [HO.out, HF.out, hf0, hen]; show (!(true && (true && (f != t && _)))) = _; rw [hft]; rfl
                have HWH : Hid (whenI l t = mi ∧ whenI l f = it ∧ endBy l f i = en) := ⟨hmi, hit, hen⟩
                clear hmi hit hen
                go_wp2_with fail
                refine (when_any l _ t _ (HIO.out _ HT1.out.old) hl).mono ?_
                rintro e w2 ⟨rfl, hw2⟩
                rw [hw2, HWH.out.1]
                clear hw2
                go_wp2_with fail
                refine (when_any l _ f _ (HIO.out _ HT1.out.old) hl).mono ?_
                rintro e w2 ⟨rfl, hw2⟩
                rw [hw2, HWH.out.2.1]
                clear hw2 w2
                by_cases hm0 : 0 ≤ mi
                · by_cases hi0 : it < 0
                  · clear o0
                    have HR2 : Hid (recAt l i = false) := by show recAt l i = false; rw [HREC.out]; simp; omega
                    obtain ⟨k0, -, -, -⟩ := HT1.out.now.cells
                    have z0 := HT1.out.now.thaw 0
                    have HTQ : Hid (Turn w (w1.setCell ⟨w.heap.size + 1, 0, none⟩ (.bool false)) P t 1 x (p && recAt l i) q r s) := by rw [HR2.out, Bool.and_false]; exact HT1.out.set0
                    go_wp2_with fail
                    refine (endAt_any l _ f i _ (HIO.out _ HTQ.out.old) hl (by omega)).mono ?_
                    rintro e w3 ⟨rfl, hw3⟩
                    rw [hw3, HWH.out.2.2]
                    clear hw3 w3
                    cases hen3 : (en != 3) with
                    | false =>
                      have HC2 : Hid (cauAt l i = true) := by show cauAt l i = true; rw [HCAU.out, hen3]; rfl
                      go_wp2_with fail
                      go_meet
                      case rel => rw [HC2.out, Bool.and_true]; exact ⟨rfl, HTQ.out⟩
                    | true =>
                      have HC2 : Hid (cauAt l i = false) := by show cauAt l i = false; rw [HCAU.out, hen3]; rfl
                      obtain ⟨-, k1, -, -⟩ := HTQ.out.now.cells
                      have z1 := HTQ.out.now.thaw 1
                      go_wp2_with fail
                      go_meet
                      case rel => rw [HC2.out, Bool.and_false]; exact ⟨rfl, HTQ.out.set1⟩
                  · by_cases hmt : mi < it
                    · clear o0
                      have HR2 : Hid (recAt l i = false) := by show recAt l i = false; rw [HREC.out]; simp; omega
                      obtain ⟨k0, -, -, -⟩ := HT1.out.now.cells
                      have z0 := HT1.out.now.thaw 0
                      have HTQ : Hid (Turn w (w1.setCell ⟨w.heap.size + 1, 0, none⟩ (.bool false)) P t 1 x (p && recAt l i) q r s) := by rw [HR2.out, Bool.and_false]; exact HT1.out.set0
                      go_wp2_with fail
                      refine (endAt_any l _ f i _ (HIO.out _ HTQ.out.old) hl (by omega)).mono ?_
                      rintro e w3 ⟨rfl, hw3⟩
                      rw [hw3, HWH.out.2.2]
                      clear hw3 w3
                      cases hen3 : (en != 3) with
                      | false =>
                        have HC2 : Hid (cauAt l i = true) := by show cauAt l i = true; rw [HCAU.out, hen3]; rfl
                        go_wp2_with fail
                        go_meet
                        case rel => rw [HC2.out, Bool.and_true]; exact ⟨rfl, HTQ.out⟩
                      | true =>
                        have HC2 : Hid (cauAt l i = false) := by show cauAt l i = false; rw [HCAU.out, hen3]; rfl
                        obtain ⟨-, k1, -, -⟩ := HTQ.out.now.cells
                        have z1 := HTQ.out.now.thaw 1
                        go_wp2_with fail
                        go_meet
                        case rel => rw [HC2.out, Bool.and_false]; exact ⟨rfl, HTQ.out.set1⟩
                    · clear o0
                      have HR2 : Hid (recAt l i = true) := by show recAt l i = true; rw [HREC.out]; simp; omega
                      have HTQ : Hid (Turn w w1 P t 1 x (p && recAt l i) q r s) := by rw [HR2.out, Bool.and_true]; exact HT1.out
                      go_wp2_with fail
                      refine (endAt_any l _ f i _ (HIO.out _ HTQ.out.old) hl (by omega)).mono ?_
                      rintro e w3 ⟨rfl, hw3⟩
                      rw [hw3, HWH.out.2.2]
                      clear hw3 w3
                      cases hen3 : (en != 3) with
                      | false =>
                        have HC2 : Hid (cauAt l i = true) := by show cauAt l i = true; rw [HCAU.out, hen3]; rfl
                        go_wp2_with fail
                        go_meet
                        case rel => rw [HC2.out, Bool.and_true]; exact ⟨rfl, HTQ.out⟩
                      | true =>
                        have HC2 : Hid (cauAt l i = false) := by show cauAt l i = false; rw [HCAU.out, hen3]; rfl
                        obtain ⟨-, k1, -, -⟩ := HTQ.out.now.cells
                        have z1 := HTQ.out.now.thaw 1
                        go_wp2_with fail
                        go_meet
                        case rel => rw [HC2.out, Bool.and_false]; exact ⟨rfl, HTQ.out.set1⟩
                · clear o0
                  have HR2 : Hid (recAt l i = true) := by show recAt l i = true; rw [HREC.out]; simp; omega
                  have HTQ : Hid (Turn w w1 P t 1 x (p && recAt l i) q r s) := by rw [HR2.out, Bool.and_true]; exact HT1.out
                  go_wp2_with fail
                  refine (endAt_any l _ f i _ (HIO.out _ HTQ.out.old) hl (by omega)).mono ?_
                  rintro e w3 ⟨rfl, hw3⟩
                  rw [hw3, HWH.out.2.2]
                  clear hw3 w3
                  cases hen3 : (en != 3) with
                  | false =>
                    have HC2 : Hid (cauAt l i = true) := by show cauAt l i = true; rw [HCAU.out, hen3]; rfl
                    go_wp2_with fail
                    go_meet
                    case rel => rw [HC2.out, Bool.and_true]; exact ⟨rfl, HTQ.out⟩
                  | true =>
                    have HC2 : Hid (cauAt l i = false) := by show cauAt l i = false; rw [HCAU.out, hen3]; rfl
                    obtain ⟨-, k1, -, -⟩ := HTQ.out.now.cells
                    have z1 := HTQ.out.now.thaw 1
                    go_wp2_with fail
                    go_meet
                    case rel => rw [HC2.out, Bool.and_false]; exact ⟨rfl, HTQ.out.set1⟩
    · have hlt' : ¬ (i : Int) < (l.length : Int) := by omega
      obtain rfl : i = l.length := by omega
      obtain ⟨k0, k1, k2, k3⟩ := HNOW.out.cells
      obtain ⟨j0, j1, j2, j3⟩ := HRES.out.cells
      have z0 := HRES.out.thaw 0
      have z1 := HRES.out.thaw 1
      have z2 := HRES.out.thaw 2
      have z3 := HRES.out.thaw 3
      go_wp2_with fail
      refine bodyPost_ret (v := .agg #[.bool p, .bool q, .bool r, .bool s]) (results_cell_row Tryd.results9 _ _ w.heap.size 34 #[.bool p, .bool q, .bool r, .bool s] (0, 0) _ rfl ((((HRES.out.set0 p).set1 q).set2 r).set3 s) Tryd.underlying34 rfl faces_info) rfl ⟨?_, ?_⟩
      · rw [← HPQ.out.1, ← HPQ.out.2.1, ← HPQ.out.2.2.1, ← HPQ.out.2.2.2]; rfl
      · refine (((hbel.setCell ?_ _).setCell ?_ _).setCell ?_ _).setCell ?_ _ <;> exact Nat.le_refl _
end Go.Proofs.YtjaeaanpbdmfgacDoor
