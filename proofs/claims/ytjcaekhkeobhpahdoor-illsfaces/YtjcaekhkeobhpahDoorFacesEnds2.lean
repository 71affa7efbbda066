/-
  PROVED HERE: faces.ends' method ended tells who has committed or aborted by a place; faces.endsOf gives the row of seven of a right list. Old memory stays as it was.
  Conditions: the deal that is asked for is one of seven; the list is short, and its ops are ops.
-/
import Derived.Test.YtjcaekhkeobhpahDoorFacesEnds
import Derived.BigFrame
import Derived.Laws.CopyOwn
namespace Go.Proofs.YtjcaekhkeobhpahDoor
open Go.RowKit

theorem wpList_load_row1 {P : Program} {ops : Array Oper} {rest : List Oper} {o : Oper} {a : Act} {w : World} {Q : Exit → Act → World → Prop} (hw : Region.wanted o (yielded ops a.tmps) = true) (ty : TypeId) (x : Operand) (ho : o.op = .load ty x)
    (g : Nat) (hx : a.eval x = .pointer (some ⟨g, 0, none⟩)) (t : TypeId) (cs : Array Value) (fr : Nat × Nat) (d : TypeDesc) (hg : w.heap[g]? = some (.cells cs t fr))
    (hu : P.underlying ty = some d) (hd : (match d with | .struct _ | .array _ _ => true | _ => false) = true) (hi : (P.info? ty).map (·.size) = some cs.size)
    (h : wpList P ops Q rest (a.put o.dst (.agg cs)) w) : wpList P ops Q (o :: rest) a w :=
  Go.BigFrame.wpList_want hw fun _ hK => wp_load_row ty x ho g hx t cs fr d hg hu hd hi (hK _ _ h)
set_option maxHeartbeats 2000000 in
theorem ended_any (f : Nat → Int × Int) (t i : Int) (w : World) (h0 : 0 ≤ t) (h7 : t < 7) :
    Calls Tryd.prog 32 #[.agg (cells14 f), .int .i64 t, .int .i64 i] w fun e w' => e = .returned (.bool (byE f t i 3 || byE f t i 4)) ∧ Below w.heap.size w w' := by
  go_enter Tryd.func32, Tryd.ntmps32
  go_upto_region 1 with (fail)
  obtain ⟨W, hW⟩ : ∃ W, W = w.alloc (.cells (cells14 f) 64) := ⟨_, rfl⟩
  rw [← hW]
  have HE : Hid (EndsAt W w.heap.size f) := by show EndsAt W _ f; rw [hW]; exact ends_box w f
  have HB : Hid (Below w.heap.size w W) := by show Below _ _ _; rw [hW]; exact (Below.refl _ w).alloc (Nat.le_refl _) _
  clear hW
  go_wp2_with (refine wpList_load_row rfl 64 (.tmp 3) rfl w.heap.size rfl 64 (cells14 f) (0, 0) _ HE.out Tryd.underlying64 rfl (ends_info' _) ?_)
  refine (committed_any f t i _ h0 h7).mono ?_
  rintro e w1 ⟨rfl, hb1⟩
  have HE1 : Hid (EndsAt w1 w.heap.size f) := HE.out.below hb1 HE.out.lt
  have HB1 : Hid (Below w.heap.size w w1) := HB.out.trans (hb1.mono HB.out.size)
  clear hb1
  cases hq : byE f t i 3 with
  | true =>
    have HQ : Hid (byE f t i 3 = true) := hq
    clear hq
    go_wp2_with fail
    go_ret
    exact ⟨by rw [HQ.out]; rfl, HB1.out⟩
  | false =>
    have HQ : Hid (byE f t i 3 = false) := hq
    clear hq
    go_wp2_with (refine wpList_load_row1 rfl 64 (.tmp 3) rfl w.heap.size rfl 64 (cells14 f) (0, 0) _ HE1.out Tryd.underlying64 rfl (ends_info' _) ?_)
    refine (aborted_any f t i _ h0 h7).mono ?_
    rintro e w2 ⟨rfl, hb2⟩
    have HB2 : Hid (Below w.heap.size w w2) := HB1.out.trans (hb2.mono HB1.out.size)
    clear hb2
    go_wp2_with fail
    go_ret
    exact ⟨by rw [HQ.out]; rfl, HB2.out⟩
set_option maxHeartbeats 4000000 in
theorem endsOf_any (l : List Op3) (v : Value) (w : World) (hI : IsOps w v l) (hl : l.length ≤ 40) (hop : ∀ o ∈ l, isOpB o = true) :
    Calls Tryd.prog 24 #[v] w fun e w' => e = .returned (.agg (cells14 (endE l l.length))) ∧ Below w.heap.size w w' := by
  obtain ⟨ad, b, off, cap, rfl, ha, -, hbB, hops⟩ := hI
  have HO : Hid (∀ W, Below w.heap.size w W → ∀ k, k < l.length → ad = some ⟨b, off, none⟩ ∧ W.cell? ⟨b, off + k * 3, none⟩ = some (.int .i64 (opAt l k).1) ∧ W.cell? ⟨b, off + k * 3 + 1, none⟩ = some (.int .i64 (opAt l k).2.1) ∧ W.cell? ⟨b, off + k * 3 + 2, none⟩ = some (.int .i64 (opAt l k).2.2)) := fun W hW k hk => ⟨ha (by omega), (hops.below hW hbB) k hk⟩
  have HOP : Hid (∀ o ∈ l, isOpB o = true) := hop
  clear ha hbB hops hop
  go_enter Tryd.func24, Tryd.ntmps24
  go_wp2
  go_loopw [8] (fun v8 wr => ∃ k : Nat, k ≤ l.length ∧ v8 = .int .i64 k ∧ Below w.heap.size w wr ∧ EndsAt wr w.heap.size (fun _ => (0, 0)) ∧ EndsAt wr (w.heap.size + 1) (endE l k)) (fun v8 _ => l.length - (intOf v8).toNat)
  case atStart =>
    refine ⟨0, Nat.zero_le _, rfl, ((Below.refl _ w).alloc (Nat.le_refl _) _).alloc (by simp) _, (ends_fresh w _ rfl).alloc _, ?_⟩
    have h1 := ends_fresh (w.alloc (.cells (cells14 fun _ => (0, 0)) 64)) _ rfl
    rw [show (w.alloc (.cells (cells14 fun _ => (0, 0)) 64)).heap.size = w.heap.size + 1 by simp] at h1
    exact h1
  case round =>
    obtain ⟨k, hk, rfl, hbel, hz, hs⟩ := hrel
    have hB1 := hs.lt
    have HZ : Hid (EndsAt wr w.heap.size (fun _ => (0, 0))) := hz
    have HS : Hid (EndsAt wr (w.heap.size + 1) (endE l k)) := hs
    have HBW : Hid (Below w.heap.size w wr) := hbel
    clear hz hs
    by_cases hlt : k < l.length
    · have hlt' : (k : Int) < (l.length : Int) := by omega
      obtain ⟨hadr, c0, c1, c2⟩ := HO.out wr hbel k hlt
      subst hadr
      obtain ⟨⟨t, a, x⟩, ho⟩ : ∃ o : Op3, opAt l k = o := ⟨_, rfl⟩
      have hisop := HOP.out _ (opAt_mem hlt)
      rw [ho] at c0 c1 c2 hisop
      obtain ⟨ht1, ht6⟩ := isOp_tx hisop
      have HOA : Hid (opAt l k = (t, a, x)) := ho
      simp only at c0 c1 c2 ht1 ht6
      clear ho hisop hbel
      go_upto_region 5 with (fail)
      obtain ⟨W, hW⟩ : ∃ W, W = wr.alloc (.cells #[.int .i64 t, .int .i64 a, .int .i64 x] 37) := ⟨_, rfl⟩
      rw [← hW]
      obtain ⟨P, hP⟩ : ∃ P, P = wr.heap.size := ⟨_, rfl⟩
      rw [← hP]
      have p0 : W.cell? ⟨P, 0, none⟩ = some (.int .i64 t) := by rw [hW, hP]; simp
      have p1 : W.cell? ⟨P, 1, none⟩ = some (.int .i64 a) := by rw [hW, hP]; simp
      have hbw : Below wr.heap.size wr W := by rw [hW]; exact (Below.refl _ wr).alloc (Nat.le_refl _) _
      have HZW : Hid (EndsAt W w.heap.size (fun _ => (0, 0))) := HZ.out.below hbw (by omega)
      have HSW : Hid (EndsAt W (w.heap.size + 1) (endE l k)) := HS.out.below hbw hB1
      have HBW2 : Hid (Below w.heap.size w W) := HBW.out.trans (hbw.mono HBW.out.size)
      have hPB : w.heap.size + 1 < P := by omega
      clear hW hP hbw HZ HS c0 c1 c2 HBW
      by_cases he : a = 3 ∨ a = 4
      · have HF : Hid (endE l (k + 1) = setE (endE l k) t.toNat (a, (k : Int))) := by
          show endE l (k + 1) = _
          rw [endE_yes (by rw [HOA.out]; rcases he with e | e <;> (simp only [e]; rfl)), HOA.out]
        obtain ⟨⟨q1, q2⟩, hq⟩ : ∃ n, endE l k t.toNat = n := ⟨_, rfl⟩
        obtain ⟨d0, d1⟩ := HSW.out.cells (x := t.toNat) (by omega) hq
        have y0 := HSW.out.thaw (t.toNat * 2)
        have y1 := HSW.out.thaw (t.toNat * 2 + 1)
        have ht0 : 0 ≤ t := by omega
        have ht7 : t < 7 := by omega
        have HLN : Hid (EndsAt ((W.setCell ⟨w.heap.size + 1, t.toNat * 2, none⟩ (.int .i64 a)).setCell ⟨w.heap.size + 1, t.toNat * 2 + 1, none⟩ (.int .i64 k)) (w.heap.size + 1) (endE l (k + 1))) := by
          rw [HF.out]
          exact HSW.out.set t.toNat a k
        have HBN : Hid (Below (w.heap.size + 1) W ((W.setCell ⟨w.heap.size + 1, t.toNat * 2, none⟩ (.int .i64 a)).setCell ⟨w.heap.size + 1, t.toNat * 2 + 1, none⟩ (.int .i64 k))) := by
          refine ((Below.refl (w.heap.size + 1) W).setCell ?_ _).setCell ?_ _ <;> exact Nat.le_refl _
        clear hq
        rcases he with rfl | rfl
        · go_wp2_with fail
          go_roundw
          case rel => exact ⟨k + 1, by omega, by go_num, HBW2.out.trans (HBN.out.mono (by omega)), HZW.out.below HBN.out (by omega), HLN.out⟩
          case measure => simp [intOf]; omega
        · go_wp2_with fail
          go_roundw
          case rel => exact ⟨k + 1, by omega, by go_num, HBW2.out.trans (HBN.out.mono (by omega)), HZW.out.below HBN.out (by omega), HLN.out⟩
          case measure => simp [intOf]; omega
      · have he3 : (a == 3) = false := beq_eq_false_iff_ne.2 fun e => he (.inl e)
        have he4 : (a == 4) = false := beq_eq_false_iff_ne.2 fun e => he (.inr e)
        have HF : Hid (endE l (k + 1) = endE l k) := endE_no (by rw [HOA.out]; show (a == 3 || a == 4) = false; rw [he3, he4]; rfl)
        clear he
        go_wp2_with fail
        go_roundw
        case rel => exact ⟨k + 1, by omega, by go_num, HBW2.out, HZW.out, by rw [HF.out]; exact HSW.out⟩
        case measure => simp [intOf]; omega
    · have hlt' : ¬ (k : Int) < (l.length : Int) := by omega
      obtain rfl : k = l.length := by omega
      clear hbel
      go_wp2_with (first | refine wpList_load_row rfl 64 (.tmp 3) rfl (w.heap.size + 1) rfl 64 (cells14 (endE l l.length)) (0, 0) _ HS.out Tryd.underlying64 rfl (ends_info' _) ?_ | refine wpList_store_row rfl 64 (.tmp 2) (.tmp 29) rfl w.heap.size (cells14 (endE l l.length)) rfl rfl 64 (cells14 fun _ => (0, 0)) HZ.out (ends_info' _) (by rw [cells14_size, cells14_size]) (cells14_one _) ?_)
      exact bodyPost_ret (v := .agg (cells14 (endE l l.length))) (results_cell_row Tryd.results24 _ _ w.heap.size 64 (cells14 (endE l l.length)) (0, 0) _ rfl (setRow_heap _ _ _ _ _ _ HZ.out) Tryd.underlying64 rfl (ends_info' _)) rfl ⟨rfl, below_setRow HBW.out (Nat.le_refl _) _⟩
end Go.Proofs.YtjcaekhkeobhpahDoor
