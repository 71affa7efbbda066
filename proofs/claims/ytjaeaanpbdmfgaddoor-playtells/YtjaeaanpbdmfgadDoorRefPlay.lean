/-
  PROVED HERE: laneref1.Play gives what a right list comes to (valsL of what is done) and what its Reads read (seenTo). Old memory stays as it was.
  Conditions: none.
-/
import Derived.Test.YtjaeaanpbdmfgadDoorRefDone
import Derived.Test.YtjaeaanpbdmfgadDoorPlayPlain
import Derived.Test.YtjaeaanpbdmfgadDoorIntRow
import Derived.Test.YtjaeaanpbdmfgadDoorRegion
import Derived.Laws.Rows
import Derived.OwnWalk
import Derived.Deep.Cut
namespace Go.Proofs.YtjaeaanpbdmfgadDoor
open Go.RowKit

/-- Numbers in a block, from place 0 on. -/
def NumsAt (w : World) (b n : Nat) (f : Nat → Int) : Prop := ∀ j, j < n → w.cell? ⟨b, j, none⟩ = some (.int .i64 (f j)) ∧ w.frozen? ⟨b, j, none⟩ = false
theorem NumsAt.lt {w : World} {b n : Nat} {f : Nat → Int} (h : NumsAt w b n f) (hn : 0 < n) : b < w.heap.size := World.block_lt_of_cell? w _ (h 0 hn).1
theorem NumsAt.same {w w' : World} {b n : Nat} {f : Nat → Int} (h : NumsAt w b n f) (hb : w'.heap[b]? = w.heap[b]?) : NumsAt w' b n f := fun j hj =>
  ⟨(World.cell?_of_block (a := ⟨b, j, none⟩) hb).trans (h j hj).1, (World.frozen?_of_block (a := ⟨b, j, none⟩) hb).trans (h j hj).2⟩
theorem NumsAt.congr {w : World} {b n : Nat} {f g : Nat → Int} (h : NumsAt w b n f) (he : ∀ j, j < n → f j = g j) : NumsAt w b n g := fun j hj => by rw [← he j hj]; exact h j hj
theorem NumsAt.set {w : World} {b n m : Nat} {f : Nat → Int} (h : NumsAt w b n f) (hm : m < n) (x : Int) : NumsAt (w.setCell ⟨b, m, none⟩ (.int .i64 x)) b n (fun j => if j = m then x else f j) := by
  intro j hj
  obtain ⟨hc, hf⟩ := h j hj
  refine ⟨?_, by simpa using hf⟩
  by_cases e : j = m
  · subst e
    rw [World.cell?_setCell_same _ _ _ hc]; simp
  · rw [World.cell?_setCell_other _ _ _ _ (by intro he; injection he with _ he2 _; exact e he2.symm), hc]; simp [e]
theorem NumsAt.far {w : World} {b n : Nat} {f : Nat → Int} (h : NumsAt w b n f) {p : Addr} (v : Value) (hp : b ≠ p.block) : NumsAt (w.setCell p v) b n f := h.same (Below.heap_setCell w p v b hp)
theorem nums_zero7 (w : World) : NumsAt (w.alloc (.cells #[.int .i64 0, .int .i64 0, .int .i64 0, .int .i64 0, .int .i64 0, .int .i64 0, .int .i64 0] 37)) w.heap.size 7 (fun _ => 0) := by
  intro j hj
  rcases (show j = 0 ∨ j = 1 ∨ j = 2 ∨ j = 3 ∨ j = 4 ∨ j = 5 ∨ j = 6 by omega) with rfl | rfl | rfl | rfl | rfl | rfl | rfl
  all_goals exact ⟨by simp, by simp⟩
theorem nums_made {w : World} {base g : Nat} {xs : List Value} (h : w.ownsRow base 3 1 (.slice (some ⟨g, 0, none⟩) 6 6) 6 xs) (hxs : xs = List.replicate 6 (Value.int .i64 0)) : NumsAt w g 6 (fun _ => 0) := by
  subst hxs
  obtain ⟨_, ⟨hv, _⟩ | ⟨g', cap, cur, hv, _, hg, _, _, hsz, htk⟩⟩ := h
  · cases hv
  · simp only [Value.slice.injEq, Option.some.injEq, Addr.mk.injEq, and_true, true_and] at hv
    obtain ⟨rfl, rfl⟩ := hv
    intro j hj
    refine ⟨?_, by simp [World.frozen?, hg]⟩
    rw [cell_of_row w g j cur _ _ hg]
    have h1 : (cur.toList.take (6 * 1))[j]? = some (Value.int .i64 0) := by rw [htk, List.getElem?_replicate, if_pos hj]
    rw [List.getElem?_take, if_pos (by omega), Array.getElem?_toList] at h1
    exact h1
def cntF (d : List Op3) (k : Nat) : Nat → Int := fun j => ((ofL (d.take k) (j : Int)).length : Int)
def sumF (d : List Op3) (k : Nat) : Nat → Int := fun j => sumTo d k (j : Int)
def valF (d : List Op3) (k : Nat) : Nat → Int := fun j => valTo d k ((j : Int) + 1)
theorem cntF_step {d : List Op3} {k t : Nat} (hk : k < d.length) (ht : (opAt d k).1 = (t : Int)) : cntF d (k + 1) = fun j => if j = t then cntF d k t + 1 else cntF d k j := by
  funext j
  unfold cntF
  rw [ofL_take_succ hk, ht]
  by_cases e : j = t
  · subst e; rw [if_pos rfl, if_pos rfl]; omega
  · rw [if_neg (by omega), if_neg e]; omega
theorem sumF_read {d : List Op3} {k t : Nat} (h1 : (opAt d k).2.1 = 1) (ht : (opAt d k).1 = (t : Int)) : sumF d (k + 1) = fun j => if j = t then sumF d k t + readV d k else sumF d k j := by
  funext j
  unfold sumF
  by_cases e : j = t
  · subst e; rw [if_pos rfl, sumTo_hit h1 ht]
  · rw [if_neg e, sumTo_pass (by rw [ht]; omega)]
theorem sumF_pass {d : List Op3} {k : Nat} (h1 : (opAt d k).2.1 ≠ 1) : sumF d (k + 1) = sumF d k := by
  funext j
  unfold sumF
  rw [sumTo_pass fun hh => h1 hh.1]
theorem valF_write {d : List Op3} {k m : Nat} (h1 : (opAt d k).2.1 = 2) (hm : (opAt d k).2.2 - 1 = (m : Int)) : valF d (k + 1) = fun j => if j = m then wrote d k else valF d k j := by
  funext j
  unfold valF
  by_cases e : j = m
  · subst e; rw [if_pos rfl, valTo_hit h1 (by omega)]
  · rw [if_neg e, valTo_pass (by omega)]
theorem valF_pass {d : List Op3} {k : Nat} (h1 : (opAt d k).2.1 ≠ 2) : valF d (k + 1) = valF d k := by
  funext j
  unfold valF
  rw [valTo_pass fun hh => h1 hh.1]
/-- Memory in a round. -/
structure PlayAt (w0 w : World) (g A : Nat) (d : List Op3) (k kc : Nat) : Prop where
  val : NumsAt w g 6 (valF d k)
  cnt : NumsAt w A 7 (cntF d kc)
  sum : NumsAt w (A + 1) 7 (sumF d k)
  old : Below w0.heap.size w0 w
  lt : w0.heap.size ≤ g ∧ g < A ∧ A + 1 < w.heap.size
theorem PlayAt.keep {w0 w w1 : World} {g A k kc : Nat} {d : List Op3} (h : PlayAt w0 w g A d k kc) (hb : Below (A + 2) w w1) : PlayAt w0 w1 g A d k kc :=
  ⟨h.val.same (hb.block g (by have := h.lt; omega)), h.cnt.same (hb.block A (by omega)), h.sum.same (hb.block (A + 1) (by omega)), h.old.trans (hb.mono (by have := h.lt; omega)), by have := h.lt; have := hb.size; omega⟩

theorem PlayAt.drew {w0 w : World} {g A k kc : Nat} {d : List Op3} (h : PlayAt w0 w g A d k kc) : PlayAt w0 w.drew g A d k kc := ⟨h.val, h.cnt, h.sum, h.old.drew, h.lt⟩
set_option maxHeartbeats 16000000 in
set_option maxRecDepth 100000 in
theorem refPlay_any (l : List Op3) (v : Value) (w : World) (hI : IsOps w v l) (hc : (chk l).2 = 0) :
    Calls Tryd.prog 5 #[v] w fun e w' => ∃ v1 v2, e = .returned (.tuple #[v1, v2]) ∧ IsInts w' v1 (valsL (doneL l)) ∧ IsInts w' v2 (seenTo (doneL l) (doneL l).length) ∧ Below w.heap.size w w' := by
  have hdn : Calls Tryd.prog 11 #[v] w fun e w' => ∃ v', e = .returned v' ∧ IsOps w' v' (doneL l) ∧ Below w.heap.size w w' := refDone_any l v w hI hc
  have hcd := chk_done hc
  obtain ⟨d, hd⟩ : ∃ d, doneL l = d := ⟨_, rfl⟩
  rw [hd] at hdn hcd ⊢
  have hl := chk_len hcd
  have HOP : Hid (∀ o ∈ d, isOpB o = true) := chk_ops hcd
  have HDN : Hid (Calls Tryd.prog 11 #[v] w fun e w' => ∃ v', e = .returned v' ∧ IsOps w' v' d ∧ Below w.heap.size w w') := hdn
  obtain ⟨i0, hi, hz0, hs0, hy0⟩ := info_parts infoInt
  have HI : Hid (Tryd.prog.info? 3 = some i0 ∧ i0.zero = some (.int .i64 0) ∧ i0.size = 1 ∧ i0.bytes = 8) := ⟨hi, hz0, hs0, hy0⟩
  clear hdn hcd hd hI hc hi hz0 hs0 hy0
  go_enter Tryd.func5, Tryd.ntmps5
  go_wp2_with fail
  refine HDN.out.mono ?_
  rintro e w1 ⟨v1, rfl, hI1, hb1⟩
  obtain ⟨ad, b, off, cap, hv1, ha, -, hbB, hops⟩ := hI1
  subst hv1
  have HE : Hid (∀ W, Below w1.heap.size w1 W → ∀ k, k < d.length → ad = some ⟨b, off, none⟩ ∧ b < w1.heap.size ∧ W.cell? ⟨b, off + k * 3, none⟩ = some (.int .i64 (opAt d k).1) ∧ W.cell? ⟨b, off + k * 3 + 1, none⟩ = some (.int .i64 (opAt d k).2.1) ∧ W.cell? ⟨b, off + k * 3 + 2, none⟩ = some (.int .i64 (opAt d k).2.2)) := fun W hW k hk => by
    refine ⟨ha (by omega), ?_, (hops.below hW hbB) k hk⟩
    rcases hbB with h | h
    · exact h
    · subst h; simp at hk
  have HB1 : Hid (Below w.heap.size w w1) := hb1
  clear ha hbB hops hb1
  go_upto_region 4 with (first | (at_make; refine wpList_make_full _ rfl (.const (.int .i64 6)) (.const (.int .i64 6)) 24 rfl w1.heap.size 3 i0 (.int .i64 0) 1 Tryd.underlying24 HI.out.1 HI.out.2.1 HI.out.2.2.1 .i64 .i64 6 6 6 rfl rfl rfl rfl (by rw [HI.out.2.2.2]; omega) (by unfold maxLen; omega) (Nat.le_refl _) ?_; intro w2 hown2 hgr2) | fail)
  have HX2 : Hid (NumsAt w2 w1.heap.size 6 (fun _ => 0)) := nums_made hown2 (by simp [madeCells, Value.cells]; rfl)
  have HB2 : Hid (Below w1.heap.size w1 w2) := ⟨hgr2.os, hgr2.tape, hgr2.output, hgr2.size, fun k hk => hgr2.block k hk (by simp)⟩
  have hg2 := HX2.out.lt (by omega)
  clear hown2 hgr2
  go_upto_region 5 with (fail)
  obtain ⟨W0, hW0⟩ : ∃ W0, W0 = (w2.alloc (.cells #[.int .i64 0, .int .i64 0, .int .i64 0, .int .i64 0, .int .i64 0, .int .i64 0, .int .i64 0] 37)).alloc (.cells #[.int .i64 0, .int .i64 0, .int .i64 0, .int .i64 0, .int .i64 0, .int .i64 0, .int .i64 0] 37) := ⟨_, rfl⟩
  rw [← hW0]
  obtain ⟨A, hA⟩ : ∃ A, A = w2.heap.size := ⟨_, rfl⟩
  rw [← hA]
  have HPL : Hid (PlayAt w1 W0 w1.heap.size A d 0 0) := by
    have hbW : Below w2.heap.size w2 W0 := by rw [hW0]; exact ((Below.refl _ w2).alloc (Nat.le_refl _) _).alloc (by simp) _
    refine ⟨(HX2.out.same (hbW.block _ hg2)).congr fun j _ => rfl, ?_, ?_, HB2.out.trans (hbW.mono HB2.out.size), ⟨Nat.le_refl _, by omega, by rw [hW0, hA]; simp⟩⟩
    · rw [hW0, hA]
      refine ((nums_zero7 w2).same (Below.heap_alloc _ _ _ (by simp))).congr fun j _ => ?_
      simp [cntF, ofL]
    · rw [hW0, hA]
      have h1 := nums_zero7 (w2.alloc (.cells #[.int .i64 0, .int .i64 0, .int .i64 0, .int .i64 0, .int .i64 0, .int .i64 0, .int .i64 0] 37))
      rw [show (w2.alloc (.cells #[.int .i64 0, .int .i64 0, .int .i64 0, .int .i64 0, .int .i64 0, .int .i64 0, .int .i64 0] 37)).heap.size = w2.heap.size + 1 by simp] at h1
      exact h1.congr fun j _ => rfl
  clear hW0 hA HX2 HB2 hg2
  go_wp2_with fail
  go_loopw [5, 8] (fun v5 v8 wr => ∃ k : Nat, k ≤ d.length ∧ v8 = .int .i64 k ∧ PlayAt w1 wr w1.heap.size A d k k ∧ wr.ownsRow (A + 2) 3 1 v5 (seenTo d k).length ((seenTo d k).map (Value.int .i64))) (fun _ v8 _ => d.length - (intOf v8).toNat)
  case atStart => exact ⟨0, Nat.zero_le _, rfl, HPL.out, World.ownsRow_nil _ _ _ _⟩
  case round =>
    obtain ⟨k, hk, rfl, hpl, hown⟩ := hrel
    have HP : Hid (PlayAt w1 wr w1.heap.size A d k k) := hpl
    clear hpl HPL
    by_cases hlt : k < d.length
    · have hlt' : (k : Int) < (d.length : Int) := by omega
      obtain ⟨hadr, hbl, c0, c1, c2⟩ := HE.out wr HP.out.old k hlt
      subst hadr
      obtain ⟨⟨t, a, x⟩, ho⟩ : ∃ o : Op3, opAt d k = o := ⟨_, rfl⟩
      have hisop := HOP.out _ (opAt_mem hlt)
      rw [ho] at c0 c1 c2 hisop
      obtain ⟨ht1, ht6⟩ := isOp_deal hisop
      simp only at c0 c1 c2 ht1 ht6
      obtain ⟨tn, rfl⟩ : ∃ n : Nat, t = n := ⟨t.toNat, by omega⟩
      have HO : Hid (opAt d k = ((tn : Int), a, x)) := ho
      have HIS : Hid (isOpB ((tn : Int), a, x) = true) := hisop
      clear ho hisop
      have ht7 : (tn : Int) < 7 := by omega
      obtain ⟨cn, hcn⟩ : ∃ cn : Nat, (ofL (d.take k) (tn : Int)).length = cn := ⟨_, rfl⟩
      have hcn40 : cn ≤ 40 := by
        rw [← hcn]
        have h1 := List.length_filter_le (fun o : Op3 => o.1 == (tn : Int)) (d.take k)
        have h2 : (d.take k).length ≤ k := List.length_take_le _ _
        unfold ofL; omega
      have HCN : Hid (cntF d k tn = cn ∧ nthAt d k = cn) := ⟨by unfold cntF; rw [hcn], by unfold nthAt; rw [HO.out]; exact hcn⟩
      clear hcn
      obtain ⟨n1, hn1⟩ : ∃ n1, (seenTo d k).length = n1 := ⟨_, rfl⟩
      have hn1b : n1 ≤ 40 := by rw [← hn1]; have := seenTo_len d k; omega
      have HN1 : Hid ((seenTo d k).length = n1) := hn1
      rw [hn1] at hown
      have HOWN : Hid (wr.ownsRow (A + 2) 3 1 u5 n1 ((seenTo d k).map (Value.int .i64))) := hown
      clear hown hn1
      have hA2 := HP.out.lt
      go_upto_region 9 with (fail)
      obtain ⟨W, hW⟩ : ∃ W, W = wr.alloc (.cells #[.int .i64 tn, .int .i64 a, .int .i64 x] 39) := ⟨_, rfl⟩
      rw [← hW]
      obtain ⟨P, hP⟩ : ∃ P, P = wr.heap.size := ⟨_, rfl⟩
      rw [← hP]
      have hbW : Below wr.heap.size wr W := by rw [hW]; exact (Below.refl _ wr).alloc (Nat.le_refl _) _
      have p0 : W.cell? ⟨P, 0, none⟩ = some (.int .i64 tn) := by rw [hW, hP]; simp
      have p1 : W.cell? ⟨P, 1, none⟩ = some (.int .i64 a) := by rw [hW, hP]; simp
      have p2 : W.cell? ⟨P, 2, none⟩ = some (.int .i64 x) := by rw [hW, hP]; simp
      have HPW : Hid (PlayAt w1 W w1.heap.size A d k k) := HP.out.keep (hbW.mono (by omega))
      have HOW : Hid (W.ownsRow (A + 2) 3 1 u5 n1 ((seenTo d k).map (Value.int .i64))) := own_below HOWN.out hbW (Nat.le_refl _)
      have hPA : A + 1 < P := by omega
      have hPo : ∀ q, u5.ownBlock = some q → q < P := fun q hq => by rw [hP]; exact (HOWN.out.lt q hq).2
      have HPO : Hid (∀ q, u5.ownBlock = some q → q < P) := hPo
      clear hW hP hbW HP HOWN c0 c1 c2 hA2 hPo
      obtain ⟨q0, z0⟩ := HPW.out.cnt tn (by omega)
      rw [HCN.out.1] at q0
      have hAP : ¬ A = P := by omega
      have hPA' : ¬ P = A := by omega
      have HPC : Hid (PlayAt w1 (W.setCell ⟨A, tn, none⟩ (.int .i64 ((cn : Int) + 1))) w1.heap.size A d k (k + 1)) := by
        have hlt3 := HPW.out.lt
        refine ⟨HPW.out.val.far _ (by show w1.heap.size ≠ A; omega), ?_, HPW.out.sum.far _ (by show A + 1 ≠ A; omega), HPW.out.old.setCell (by show w1.heap.size ≤ A; omega) _, by simpa using hlt3⟩
        rw [cntF_step hlt (by rw [HO.out]), HCN.out.1]
        exact HPW.out.cnt.set (by omega) _
      have HOC : Hid ((W.setCell ⟨A, tn, none⟩ (.int .i64 ((cn : Int) + 1))).ownsRow (A + 2) 3 1 u5 n1 ((seenTo d k).map (Value.int .i64))) := ownsRow_setCell_below HOW.out (by show A < A + 2; omega) _
      go_upto_region 10 with (fail)
      obtain ⟨V, hV⟩ : ∃ V, V = W.setCell ⟨A, tn, none⟩ (.int .i64 ((cn : Int) + 1)) := ⟨_, rfl⟩
      rw [← hV] at HPC HOC ⊢
      have s0 : V.cell? ⟨P, 0, none⟩ = some (.int .i64 tn) := by rw [hV, World.cell?_setCell_other _ _ _ _ (by intro he; injection he with h1; exact hAP h1)]; exact p0
      have s1 : V.cell? ⟨P, 1, none⟩ = some (.int .i64 a) := by rw [hV, World.cell?_setCell_other _ _ _ _ (by intro he; injection he with h1; exact hAP h1)]; exact p1
      have s2 : V.cell? ⟨P, 2, none⟩ = some (.int .i64 x) := by rw [hV, World.cell?_setCell_other _ _ _ _ (by intro he; injection he with h1; exact hAP h1)]; exact p2
      clear hV p0 p1 p2 q0 z0 HPW HOW
      have hVl := HPC.out.lt
      have hPV : P < V.heap.size := World.block_lt_of_cell? V _ s0
      by_cases ha1 : a = 1
      · subst ha1
        obtain ⟨hx1, hx6⟩ := isOp_item HIS.out (.inl rfl)
        simp only at hx1 hx6
        obtain ⟨m, hxm⟩ : ∃ m : Nat, x - 1 = (m : Int) := ⟨(x - 1).toNat, by omega⟩
        have hm6 : (m : Int) < 6 := by omega
        have hwm : IntKind.i64.wrap (m : Int) = (m : Int) := by rw [IntKind.wrap_i64]; omega
        obtain ⟨f0, -⟩ := HPC.out.val m (by omega)
        obtain ⟨sm, hsm⟩ : ∃ sm, sumF d k tn = sm := ⟨_, rfl⟩
        obtain ⟨vx, hvx⟩ : ∃ vx, readV d k = vx := ⟨_, rfl⟩
        have hvv : valF d k m = vx := by rw [← hvx]; unfold valF readV; rw [HO.out, show (m : Int) + 1 = x by omega]
        rw [hvv] at f0
        have hsb := sumTo_bound d (tn : Int) k
        have hsm1 : 0 ≤ sm ∧ sm ≤ 40000120 := by
          have : sumTo d k (tn : Int) = sm := hsm
          omega
        have hvb : 0 ≤ vx ∧ vx < 1000003 := by rw [← hvx]; exact valTo_bound d k _
        have HSV : Hid (sumF d k tn = sm ∧ readV d k = vx) := ⟨hsm, hvx⟩
        obtain ⟨hsm0, hsm2⟩ := hsm1
        obtain ⟨hv0, hv2⟩ := hvb
        have HN : Hid (seenTo d (k + 1) = seenTo d k ++ [vx]) := by show seenTo d (k + 1) = _; rw [seenTo, HO.out, if_pos rfl, hvx]
        clear hsb hsm hvx hvv
        have hgl : w1.heap.size < V.heap.size := by omega
        go_upto_region 13 with (first | (at_builtin; refine wpList_append_own _ rfl (.tmp 39) (.tmp 41) 24 rfl (A + 2) 3 i0 (.int .i64 0) 1 8 Tryd.underlying24 HI.out.1 HI.out.2.1 HI.out.2.2.1 HI.out.2.2.2 rfl (by decide) u5 n1 ((seenTo d k).map (Value.int .i64)) rfl (HOC.out.alloc _) ⟨V.heap.size, 0, none⟩ 1 1 [.int .i64 vx] rfl rfl (cell_one_new _ _ _) (by simp [Value.oneCell']) (by unfold maxLen; omega) (by omega) (by simp; omega) ?_; intro v2 w2 hown2 hgr2 hnil2) | fail)
        have hB2 : Below (A + 2) V w2 := ((Below.refl (A + 2) V).alloc (by omega) _).grown hgr2 (by simp; omega) (fun q hq => (HOC.out.lt q hq).1)
        have HP2 : Hid (PlayAt w1 w2 w1.heap.size A d k (k + 1)) := HPC.out.keep hB2
        have HO2 : Hid (w2.ownsRow (A + 2) 3 1 v2 (n1 + 1) ((seenTo d k).map (Value.int .i64) ++ [.int .i64 vx])) := hown2
        have r0 : w2.cell? ⟨P, 0, none⟩ = some (.int .i64 tn) := hgr2.cell (by rw [World.cell?_alloc_lt _ _ ⟨P, 0, none⟩ hPV]; exact s0) (fun he => by have := HPO.out P he.symm; omega)
        have r1 : w2.cell? ⟨P, 1, none⟩ = some (.int .i64 1) := hgr2.cell (by rw [World.cell?_alloc_lt _ _ ⟨P, 1, none⟩ hPV]; exact s1) (fun he => by have := HPO.out P he.symm; omega)
        obtain ⟨q0, z0⟩ := HP2.out.sum tn (by omega)
        rw [HSV.out.1] at q0
        have hAP1 : ¬ A + 1 = P := by omega
        have hPA1 : ¬ P = A + 1 := by omega
        have HPN : Hid (PlayAt w1 (w2.setCell ⟨A + 1, tn, none⟩ (.int .i64 (sm + vx))) w1.heap.size A d (k + 1) (k + 1)) := by
          have hlt3 := HP2.out.lt
          refine ⟨?_, HP2.out.cnt.far _ (by show A ≠ A + 1; omega), ?_, HP2.out.old.setCell (by show w1.heap.size ≤ A + 1; omega) _, by simpa using hlt3⟩
          · rw [valF_pass (by rw [HO.out]; show (1 : Int) ≠ 2; decide)]
            exact HP2.out.val.far _ (by show w1.heap.size ≠ A + 1; omega)
          · rw [sumF_read (by rw [HO.out]) (by rw [HO.out]), HSV.out.1, HSV.out.2]
            exact HP2.out.sum.set (by omega) _
        have HON : Hid ((w2.setCell ⟨A + 1, tn, none⟩ (.int .i64 (sm + vx))).ownsRow (A + 2) 3 1 v2 (n1 + 1) ((seenTo d k).map (Value.int .i64) ++ [.int .i64 vx])) := ownsRow_setCell_below HO2.out (by show A + 1 < A + 2; omega) _
        clear hown2 hgr2 hnil2 hB2 s0 s1 s2 f0 HPC HOC HP2 HO2
        go_wp2_with fail
        go_region
        all_goals
          go_wp2
          go_roundw
          case rel => exact ⟨k + 1, by omega, by go_num, HPN.out.drew, by rw [HN.out, List.length_append, HN1.out, List.map_append]; exact HON.out⟩
          case measure => simp [intOf]; omega
      · by_cases ha2 : a = 2
        · subst ha2
          obtain ⟨hx1, hx6⟩ := isOp_item HIS.out (.inr rfl)
          simp only at hx1 hx6
          obtain ⟨m, hxm⟩ : ∃ m : Nat, x - 1 = (m : Int) := ⟨(x - 1).toNat, by omega⟩
          have hm6 : (m : Int) < 6 := by omega
          have hwm : IntKind.i64.wrap (m : Int) = (m : Int) := by rw [IntKind.wrap_i64]; omega
          obtain ⟨f0, zf⟩ := HPC.out.val m (by omega)
          obtain ⟨q0, -⟩ := HPC.out.sum tn (by omega)
          obtain ⟨b0, -⟩ := HPC.out.cnt tn (by omega)
          have hcc : cntF d (k + 1) tn = (cn : Int) + 1 := by rw [cntF_step hlt (by rw [HO.out])]; simp [HCN.out.1]
          rw [hcc] at b0
          obtain ⟨sm, hsm⟩ : ∃ sm, sumF d k tn = sm := ⟨_, rfl⟩
          rw [hsm] at q0
          have hsb := sumTo_bound d (tn : Int) k
          have hsm1 : 0 ≤ sm ∧ sm ≤ 40000120 := by
            have : sumTo d k (tn : Int) = sm := hsm
            omega
          obtain ⟨hsm0, hsm2⟩ := hsm1
          have HWR : Hid (wrote d k = (7 * (tn : Int) + ((cn : Int) + 1) + sm) % 1000003) := by
            show wrote d k = _
            unfold wrote
            rw [HO.out, HCN.out.2]
            show (7 * (tn : Int) + ((cn : Int) + 1) + sumF d k tn) % 1000003 = _
            rw [hsm]
          have HN : Hid (seenTo d (k + 1) = seenTo d k) := by show seenTo d (k + 1) = seenTo d k; rw [seenTo, HO.out, if_neg ha1]
          clear hsb hsm hcc
          have hgl : w1.heap.size < V.heap.size := by omega
          have hgP : ¬ w1.heap.size = P := by omega
          have hPg : ¬ P = w1.heap.size := by omega
          have HPN : Hid (PlayAt w1 (V.setCell ⟨w1.heap.size, m, none⟩ (.int .i64 ((7 * (tn : Int) + ((cn : Int) + 1) + sm) % 1000003))) w1.heap.size A d (k + 1) (k + 1)) := by
            have hlt3 := HPC.out.lt
            refine ⟨?_, HPC.out.cnt.far _ (by show A ≠ w1.heap.size; omega), ?_, HPC.out.old.setCell (by exact Nat.le_refl _) _, by simpa using hlt3⟩
            · rw [valF_write (m := m) (by rw [HO.out]) (by rw [HO.out]; exact hxm), HWR.out]
              exact HPC.out.val.set (by omega) _
            · rw [sumF_pass (by rw [HO.out]; exact ha1)]
              exact HPC.out.sum.far _ (by show A + 1 ≠ w1.heap.size; omega)
          have HON : Hid ((V.setCell ⟨w1.heap.size, m, none⟩ (.int .i64 ((7 * (tn : Int) + ((cn : Int) + 1) + sm) % 1000003))).ownsRow (A + 2) 3 1 u5 n1 ((seenTo d k).map (Value.int .i64))) := ownsRow_setCell_below HOC.out (by show w1.heap.size < A + 2; omega) _
          go_wp2_with fail
          go_region
          all_goals
            go_wp2
            go_roundw
            case rel => exact ⟨k + 1, by omega, by go_num, HPN.out.drew, by rw [HN.out, HN1.out]; exact HON.out⟩
            case measure => simp [intOf]; omega
        · have e1 : (a == 1) = false := by simpa using ha1
          have e2 : (a == 2) = false := by simpa using ha2
          have HN : Hid (seenTo d (k + 1) = seenTo d k) := by show seenTo d (k + 1) = seenTo d k; rw [seenTo, HO.out, if_neg ha1]
          have HPN : Hid (PlayAt w1 V w1.heap.size A d (k + 1) (k + 1)) := ⟨by rw [valF_pass (by rw [HO.out]; exact ha2)]; exact HPC.out.val, HPC.out.cnt, by rw [sumF_pass (by rw [HO.out]; exact ha1)]; exact HPC.out.sum, HPC.out.old, HPC.out.lt⟩
          clear ha1 ha2
          go_wp2_with fail
          go_roundw
          case rel => exact ⟨k + 1, by omega, by go_num, HPN.out, by rw [HN.out, HN1.out]; exact HOC.out⟩
          case measure => simp [intOf]; omega
    · have hlt' : ¬ (k : Int) < (d.length : Int) := by omega
      obtain rfl : k = d.length := by omega
      have HR1 : Hid (IsInts wr (.slice (some ⟨w1.heap.size, 0, none⟩) 6 6) (valsL d)) := by
        refine ⟨some ⟨w1.heap.size, 0, none⟩, w1.heap.size, 0, 6, by simp [valsL], fun _ => rfl, fun h => (by cases h), .inl (HP.out.val.lt (by omega)), fun i hi => ?_⟩
        have hi6 : i < 6 := by simpa [valsL] using hi
        rw [Nat.zero_add, (HP.out.val i hi6).1]
        simp [valsL, valF, List.getD, hi6]
      have HR2 : Hid (IsInts wr u5 (seenTo d d.length)) := isInts_own hown rfl
      go_wp2_with fail
      go_ret2
      exact ⟨_, _, rfl, HR1.out, HR2.out, HB1.out.trans (HP.out.old.mono HB1.out.size)⟩
end Go.Proofs.YtjaeaanpbdmfgadDoor
