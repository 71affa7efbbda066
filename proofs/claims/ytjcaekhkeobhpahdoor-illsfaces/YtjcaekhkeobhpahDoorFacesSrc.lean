/-
  PROVED HERE: faces.sources tells of each Read of a list the deal that wrote the item last ahead of it, of those that had not aborted by then, in a list of its own; and of a right list these are the deals that its Reads read from. Old memory stays as it was.
  Conditions: the list is short, its ops are ops, and the slice is no longer than its capacity.
-/
import Derived.Test.YtjcaekhkeobhpahDoorFacesWriter
import Derived.Test.YtjcaekhkeobhpahDoorEdgeRow
import Derived.Test.YtjcaekhkeobhpahDoorMgaj
import Derived.Test.YtjcaekhkeobhpahDoorRegion
namespace Go.Proofs.YtjcaekhkeobhpahDoor
open Go.RowKit

/-- A call of a Go function by its contract, as one step of a region that draws. -/
theorem step_call {P : Program} {ops : Array Oper} {o : Oper} {a : Act} {w : World} {K : Act → World → Prop} {Q : Exit → Act → World → Prop} {E : Prop}
    (hgd : o.guard = none) (N : FuncId) (A : Array Operand) (T : Array TypeId) (ho : o.op = .call { callee := .value (.func N), args := A, argTypes := T })
    (vals : Array Value) (hv : A.map a.eval = vals) (hent : ∀ args W, (callFunc N args).run P W = .ok (.enter N args) W) (v : Value) (R : World → Prop)
    (hc : Calls P N vals w fun e w' => e = .returned v ∧ R w') (h : ∀ w', R w' → K (a.put o.dst v) w') :
    if Region.wanted o (yielded ops a.tmps) = true then Oper.wp P o a w K Q else E := by
  have hw : Region.wanted o (yielded ops a.tmps) = true := by simp [Region.wanted, hgd]
  rw [if_pos hw]
  have hrun : (execOp a.eval o).run P w = .ok (.enter N vals) w := by
    have h1 : a.eval (.func N) = .func (.func N) #[] #[] := rfl
    simp [execOp, ho, resolve, h1, hv, Deferred.ofValue, invoke, hent]
  unfold Oper.wp
  rw [hrun]
  show Calls P N vals w _
  refine hc.mono ?_
  rintro e w' ⟨rfl, hR⟩
  exact h w' hR
theorem cells14_lit (f : Nat → Int × Int) : cells14 f = #[.int .i64 (f 0).1, .int .i64 (f 0).2, .int .i64 (f 1).1, .int .i64 (f 1).2, .int .i64 (f 2).1, .int .i64 (f 2).2, .int .i64 (f 3).1, .int .i64 (f 3).2, .int .i64 (f 4).1, .int .i64 (f 4).2, .int .i64 (f 5).1, .int .i64 (f 5).2, .int .i64 (f 6).1, .int .i64 (f 6).2] := rfl
theorem EndsAt.all {w : World} {b : Nat} {f : Nat → Int × Int} (h : EndsAt w b f) : w.cell? ⟨b, 0, none⟩ = some (.int .i64 (f 0).1) ∧ w.cell? ⟨b, 1, none⟩ = some (.int .i64 (f 0).2) ∧ w.cell? ⟨b, 2, none⟩ = some (.int .i64 (f 1).1) ∧ w.cell? ⟨b, 3, none⟩ = some (.int .i64 (f 1).2) ∧ w.cell? ⟨b, 4, none⟩ = some (.int .i64 (f 2).1) ∧ w.cell? ⟨b, 5, none⟩ = some (.int .i64 (f 2).2) ∧ w.cell? ⟨b, 6, none⟩ = some (.int .i64 (f 3).1) ∧ w.cell? ⟨b, 7, none⟩ = some (.int .i64 (f 3).2) ∧ w.cell? ⟨b, 8, none⟩ = some (.int .i64 (f 4).1) ∧ w.cell? ⟨b, 9, none⟩ = some (.int .i64 (f 4).2) ∧ w.cell? ⟨b, 10, none⟩ = some (.int .i64 (f 5).1) ∧ w.cell? ⟨b, 11, none⟩ = some (.int .i64 (f 5).2) ∧ w.cell? ⟨b, 12, none⟩ = some (.int .i64 (f 6).1) ∧ w.cell? ⟨b, 13, none⟩ = some (.int .i64 (f 6).2) :=
  ⟨by rw [cell_of_row w b _ _ _ _ h]; rfl, by rw [cell_of_row w b _ _ _ _ h]; rfl, by rw [cell_of_row w b _ _ _ _ h]; rfl, by rw [cell_of_row w b _ _ _ _ h]; rfl, by rw [cell_of_row w b _ _ _ _ h]; rfl, by rw [cell_of_row w b _ _ _ _ h]; rfl, by rw [cell_of_row w b _ _ _ _ h]; rfl, by rw [cell_of_row w b _ _ _ _ h]; rfl, by rw [cell_of_row w b _ _ _ _ h]; rfl, by rw [cell_of_row w b _ _ _ _ h]; rfl, by rw [cell_of_row w b _ _ _ _ h]; rfl, by rw [cell_of_row w b _ _ _ _ h]; rfl, by rw [cell_of_row w b _ _ _ _ h]; rfl, by rw [cell_of_row w b _ _ _ _ h]; rfl⟩
def sTo (f : Nat → Int × Int) (l : List Op3) : Nat → List Edge2
  | 0 => []
  | k + 1 => if (opAt l k).2.1 = 1 then sTo f l k ++ [((k : Int), wTo f (opAt l k).2.2 k (l.take k) k)] else sTo f l k
theorem sTo_len (f : Nat → Int × Int) (h : List Op3) (k : Nat) : (sTo f h k).length ≤ k := by
  induction k with
  | zero => exact Nat.le_refl _
  | succ k ih =>
    rw [sTo]
    split
    · rw [List.length_append]; simp; omega
    · omega
theorem wTo_from {h : List Op3} (hc : Calm h) (hop : ∀ o ∈ h, isOpB o = true) (y : Int) {i : Nat} (hi : i ≤ h.length) : ∀ k, k ≤ i → wTo (endE h h.length) y i (h.take i) k = fromTo h y i k := by
  intro k
  induction k with
  | zero => intro _; rfl
  | succ k ih =>
    intro hk
    have ht := isOp_tx (hop _ (opAt_mem (show k < h.length by omega)))
    rw [wTo, fromTo, opAt_take (show k < i by omega), ih (by omega)]
    have e : (countB (endE h h.length) y i (opAt h k) = true) = ((opAt h k).2.1 = 2 ∧ (opAt h k).2.2 = y ∧ endBy h (opAt h k).1 i ≠ 4) := by
      unfold countB
      rw [byE_end hc hop ht.1 (.inr rfl) hi]
      simp
    by_cases hcase : (opAt h k).2.1 = 2 ∧ (opAt h k).2.2 = y ∧ endBy h (opAt h k).1 i ≠ 4
    · rw [if_pos hcase, if_pos (e ▸ hcase)]
    · rw [if_neg hcase, if_neg (e ▸ hcase)]
theorem sTo_src {h : List Op3} (hc : Calm h) (hop : ∀ o ∈ h, isOpB o = true) : ∀ k, k ≤ h.length → sTo (endE h h.length) h k = srcTo h k := by
  intro k
  induction k with
  | zero => intro _; rfl
  | succ k ih =>
    intro hk
    rw [sTo, srcTo, ih (by omega), wTo_from hc hop _ (by omega) k (Nat.le_refl _)]
    rfl
theorem infoSrc : (Tryd.prog.info? 69).map (fun i => (i.zero, i.size, i.bytes)) = some (some (.agg #[.int .i64 0, .int .i64 0]), 2, 16) := by kernel_rfl
theorem one_src (w : World) (t a : Int) : ∀ j u, (flatE [(t, a)])[j]? = some u → (w.alloc (.cells #[.int .i64 t, .int .i64 a] 69)).cell? ((⟨w.heap.size, 0, none⟩ : Addr).add j) = some u := by
  intro j u hj
  match j, hj with
  | 0, hj => simp [flatE] at hj; subst hj; simp [Addr.add]
  | 1, hj => simp [flatE] at hj; subst hj; simp [Addr.add]
  | k + 2, hj => simp [flatE] at hj
theorem isOps_pre {W : World} {b off cap k : Nat} {l : List Op3} (hk : k < l.length) (hb : b < W.heap.size) (hat : OpsAt W b off l) : IsOps W (.slice (some ⟨b, off, none⟩) k cap) (l.take k) := by
  have hlk : (l.take k).length = k := by rw [List.length_take]; omega
  refine ⟨some ⟨b, off, none⟩, b, off, cap, by rw [hlk], fun _ => rfl, fun h => (by cases h), .inl hb, fun i hi => ?_⟩
  have hik : i < k := by rw [hlk] at hi; exact hi
  have := hat i (by omega)
  rw [show (l.take k).getD i (0, 0, 0) = l.getD i (0, 0, 0) by simp [List.getD, hik]]
  exact this
set_option maxHeartbeats 8000000 in
set_option maxRecDepth 100000 in
theorem sources_any (f : Nat → Int × Int) (l : List Op3) (ad : Option Addr) (cap : Nat) (w : World) (hI : IsOps w (.slice ad l.length cap) l) (hcap : l.length ≤ cap) (hl : l.length ≤ 40) (hop : ∀ o ∈ l, isOpB o = true) :
    Calls Tryd.prog 26 #[.slice ad l.length cap, .agg (cells14 f)] w fun e w' => ∃ v', e = .returned v' ∧ w'.ownsRow (w.heap.size + 1) 69 2 v' (sTo f l l.length).length (flatE (sTo f l l.length)) ∧ Below w.heap.size w w' := by
  obtain ⟨ad', b, off, cap', he, had, -, hbB, hops⟩ := hI
  simp only [Value.slice.injEq, true_and] at he
  obtain ⟨rfl, rfl⟩ := he
  have HO : Hid (∀ W, Below w.heap.size w W → ∀ k, k < l.length → ad = some ⟨b, off, none⟩ ∧ W.cell? ⟨b, off + k * 3, none⟩ = some (.int .i64 (opAt l k).1) ∧ W.cell? ⟨b, off + k * 3 + 1, none⟩ = some (.int .i64 (opAt l k).2.1) ∧ W.cell? ⟨b, off + k * 3 + 2, none⟩ = some (.int .i64 (opAt l k).2.2)) := fun W hW k hk => ⟨had (by omega), (hops.below hW hbB) k hk⟩
  have HPRE : Hid (∀ W, Below w.heap.size w W → ∀ k, k < l.length → IsOps W (.slice (some ⟨b, off, none⟩) k cap) (l.take k)) := fun W hW k hk => isOps_pre hk (by
    rcases hbB with h | h
    · exact Nat.lt_of_lt_of_le h hW.size
    · subst h; simp at hk) (hops.below hW hbB)
  have HOP : Hid (∀ o ∈ l, isOpB o = true) := hop
  obtain ⟨i0, hi, hz0, hs0, hy0⟩ := info_parts infoSrc
  have HI : Hid (Tryd.prog.info? 69 = some i0 ∧ i0.zero = some (.agg #[.int .i64 0, .int .i64 0]) ∧ i0.size = 2 ∧ i0.bytes = 16) := ⟨hi, hz0, hs0, hy0⟩
  clear had hbB hops hop hi hz0 hs0 hy0
  go_enter Tryd.func26, Tryd.ntmps26
  go_wp2
  go_loopw [5, 10] (fun v5 v10 wr => ∃ k : Nat, k ≤ l.length ∧ v10 = .int .i64 k ∧ Below w.heap.size w wr ∧ EndsAt wr w.heap.size f ∧ wr.ownsRow (w.heap.size + 1) 69 2 v5 (sTo f l k).length (flatE (sTo f l k))) (fun _ v10 _ => l.length - (intOf v10).toNat)
  case atStart => exact ⟨0, Nat.zero_le _, rfl, (Below.refl _ w).alloc (Nat.le_refl _) _, ends_box w f, World.ownsRow_nil _ _ _ _⟩
  case round =>
    obtain ⟨k, hk, rfl, hbel, hends, hown⟩ := hrel
    have HBW : Hid (Below w.heap.size w wr) := hbel
    have HE : Hid (EndsAt wr w.heap.size f) := hends
    have hB1 := hends.lt
    obtain ⟨n1, hn1⟩ : ∃ n1, (sTo f l k).length = n1 := ⟨_, rfl⟩
    have hn1b : n1 ≤ 40 := by rw [← hn1]; have := sTo_len f l k; omega
    have HN1 : Hid ((sTo f l k).length = n1) := hn1
    rw [hn1] at hown
    have HOWN : Hid (wr.ownsRow (w.heap.size + 1) 69 2 u5 n1 (flatE (sTo f l k))) := hown
    clear hends hown hn1
    by_cases hlt : k < l.length
    · have hlt' : (k : Int) < (l.length : Int) := by omega
      obtain ⟨hadr, c0, c1, c2⟩ := HO.out wr hbel k hlt
      subst hadr
      obtain ⟨⟨t, a, x⟩, ho⟩ : ∃ o : Op3, opAt l k = o := ⟨_, rfl⟩
      rw [ho] at c0 c1 c2
      have HOA : Hid (opAt l k = (t, a, x)) := ho
      simp only at c0 c1 c2
      clear ho hbel
      go_upto_region 5 with (fail)
      obtain ⟨W, hW⟩ : ∃ W, W = wr.alloc (.cells #[.int .i64 t, .int .i64 a, .int .i64 x] 37) := ⟨_, rfl⟩
      rw [← hW]
      obtain ⟨P, hP⟩ : ∃ P, P = wr.heap.size := ⟨_, rfl⟩
      rw [← hP]
      have p1 : W.cell? ⟨P, 1, none⟩ = some (.int .i64 a) := by rw [hW, hP]; simp
      have p2 : W.cell? ⟨P, 2, none⟩ = some (.int .i64 x) := by rw [hW, hP]; simp
      have hbw : Below wr.heap.size wr W := by rw [hW]; exact (Below.refl _ wr).alloc (Nat.le_refl _) _
      have HEW : Hid (EndsAt W w.heap.size f) := HE.out.below hbw hB1
      have HBW2 : Hid (Below w.heap.size w W) := HBW.out.trans (hbw.mono HBW.out.size)
      have HOW : Hid (W.ownsRow (w.heap.size + 1) 69 2 u5 n1 (flatE (sTo f l k))) := by
        show W.ownsRow _ _ _ _ _ _
        rw [hW]; exact HOWN.out.alloc _
      have hWs : w.heap.size < W.heap.size := HEW.out.lt
      clear hW hP hbw HE HBW HOWN c0 c1 c2
      by_cases ha : a = 1
      · subst ha
        have HRD : Hid (sTo f l (k + 1) = sTo f l k ++ [((k : Int), wTo f x k (l.take k) k)]) := by
          show sTo f l (k + 1) = _
          rw [sTo, HOA.out, if_pos rfl]
        have HC : Hid (∀ W', Below W.heap.size W W' → Calls Tryd.prog 47 #[.slice (some ⟨b, off, none⟩) k cap, .int .i64 x, .agg (cells14 f)] W' fun e w' => e = .returned (.int .i64 (wTo f x k (l.take k) k)) ∧ Below W.heap.size W w') := fun W' hW' => by
          have hlk : (l.take k).length = k := by rw [List.length_take]; omega
          have h1 := writer_any f x (l.take k) _ W' (HPRE.out W' (HBW2.out.trans (hW'.mono HBW2.out.size)) k hlt) (by omega) (fun o ho => HOP.out o (List.mem_of_mem_take ho))
          rw [hlk] at h1
          exact h1.mono fun e w' ⟨h2, h3⟩ => ⟨h2, hW'.trans (h3.mono hW'.size)⟩
        obtain ⟨r, hr⟩ : ∃ r, wTo f x k (l.take k) k = r := ⟨_, rfl⟩
        rw [hr] at HRD HC
        clear hr
        have hkc : (k : Int) ≤ (cap : Int) := by omega
        have hent : ∀ args W, (callFunc 47 args).run Tryd.prog W = .ok (.enter 47 args) W := fun _ _ => by kernel_rfl
        have HENT : Hid (∀ args W, (callFunc 47 args).run Tryd.prog W = .ok (.enter 47 args) W) := hent
        obtain ⟨e0, e1, e2, e3, e4, e5, e6, e7, e8, e9, e10, e11, e12, e13⟩ := HEW.out.all
        clear hent
        go_wp2_with fail
        go_region_law (first | (refine step_call rfl 47 _ _ rfl #[.slice (some ⟨b, off, none⟩) k cap, .int .i64 x, .agg (cells14 f)] (by rw [cells14_lit]; simp [Act.eval]) HENT.out (.int .i64 r) (fun w' => Below W.heap.size W w') (HC.out W.drew (Below.refl _ W).drew) ?_; intro W1 hW1) | (refine step_append_own rfl (.tmp 18) (.tmp 28) 66 rfl (w.heap.size + 1) 69 i0 (.agg #[.int .i64 0, .int .i64 0]) 2 16 Tryd.underlying66 HI.out.1 HI.out.2.1 HI.out.2.2.1 HI.out.2.2.2 rfl (by decide) u5 n1 (flatE (sTo f l k)) (by simp [Act.eval]) ((own_below HOW.out hW1 (Nat.le_refl _)).alloc _) ⟨W1.heap.size, 0, none⟩ 1 1 (flatE [((k : Int), r)]) (by simp [Act.eval]) rfl (one_src W1 k r) (flatE_one _) (by unfold maxLen; omega) (by omega) (by have := hW1.size; simp; omega) ?_; intro v4 w4 hown4 hgr4 hnil4))
        all_goals
          have hbW1 : Below w.heap.size w W1 := HBW2.out.trans (hW1.mono HBW2.out.size)
          have HEW1 : EndsAt W1 w.heap.size f := HEW.out.below hW1 hWs
          have hlt1 := HEW1.lt
          have HB4 : Hid (Below w.heap.size w w4) := (hbW1.alloc hbW1.size _).grown hgr4 (by simp; omega) (fun q hq => by have := (HOW.out.lt q hq).1; omega)
          have HE4 : Hid (EndsAt w4 w.heap.size f) := (HEW1.alloc _).same (hgr4.block _ (by simp; omega) (fun he => by have := (HOW.out.lt _ he.symm).1; omega))
          have HO4 : Hid (w4.ownsRow (w.heap.size + 1) 69 2 v4 (n1 + 1) (flatE (sTo f l k) ++ flatE [((k : Int), r)])) := hown4
          clear hbW1 HEW1 hlt1 hown4 hgr4 hnil4 hW1 e0 e1 e2 e3 e4 e5 e6 e7 e8 e9 e10 e11 e12 e13 p1 p2
          go_wp2_with fail
          go_roundw
          case rel => exact ⟨k + 1, by omega, by go_num, HB4.out, HE4.out, by rw [HRD.out, flatE_append, List.length_append, HN1.out]; exact HO4.out⟩
          case measure => simp [intOf]; omega
      · have ha1' : (a == 1) = false := by simpa using ha
        have HRD : Hid (sTo f l (k + 1) = sTo f l k) := by
          show sTo f l (k + 1) = sTo f l k
          rw [sTo, HOA.out, if_neg ha]
        clear ha
        go_wp2_with fail
        go_roundw
        case rel => exact ⟨k + 1, by omega, by go_num, HBW2.out, HEW.out, by rw [HRD.out, HN1.out]; exact HOW.out⟩
        case measure => simp [intOf]; omega
    · have hlt' : ¬ (k : Int) < (l.length : Int) := by omega
      obtain rfl : k = l.length := by omega
      clear hbel
      go_wp2_with fail
      go_ret
      exact ⟨_, rfl, by rw [HN1.out]; exact HOWN.out, HBW.out⟩
end Go.Proofs.YtjcaekhkeobhpahDoor
