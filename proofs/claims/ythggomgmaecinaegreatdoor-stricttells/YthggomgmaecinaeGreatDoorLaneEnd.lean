/-
  PROVED HERE: strict.lane's method inOrder, over a run in memory: the deals that were aborted, in order, in whichever order the map tells them.
  Conditions: no deal was aborted twice.
-/
import Derived.Test.YthggomgmaecinaeGreatDoorLane1
namespace Go.Proofs.YthggomgmaecinaeGreatDoor
open Go.RowKit
open Go.Maps (Keyed)

/-- Numbers in a block. -/
def NumsAt (w : World) (S m : Nat) (vs : Nat → Int) : Prop := ∀ j, j < m → w.cell? ⟨S, j, none⟩ = some (.int .i64 (vs j)) ∧ w.frozen? ⟨S, j, none⟩ = false
theorem NumsAt.set {w : World} {S m : Nat} {vs : Nat → Int} (h : NumsAt w S m vs) {k : Nat} (hk : k < m) (x : Int) : NumsAt (w.setCell ⟨S, k, none⟩ (.int .i64 x)) S m (fun j => if j = k then x else vs j) := fun j hj => by
  obtain ⟨hc, hf⟩ := h j hj
  constructor
  · show _ = some (Value.int .i64 (if j = k then x else vs j))
    by_cases e : j = k
    · subst e
      rw [World.cell?_setCell_same _ _ _ hc, if_pos rfl]
    · rw [World.cell?_setCell_other _ _ _ _ (by intro he; injection he with _ he2 _; exact e he2.symm), hc, if_neg e]
  · simpa using hf
theorem nums_start {w : World} {base g m : Nat} {xs : List Value} (h : w.ownsRow base 3 1 (.slice (some ⟨g, 0, none⟩) m m) m xs) (hxs : xs = List.replicate m (Value.int .i64 0)) : NumsAt w g m fun _ => 0 := by
  subst hxs
  obtain ⟨_, ⟨hv, _⟩ | ⟨g', cap, cur, hv, _, hg, _, _, hsz, htk⟩⟩ := h
  · cases hv
  · simp only [Value.slice.injEq, Option.some.injEq, Addr.mk.injEq, and_true, true_and] at hv
    obtain ⟨rfl, rfl⟩ := hv
    intro j hj
    refine ⟨?_, by simp [World.frozen?, hg]⟩
    rw [cell_of_row w g j cur _ _ hg]
    have h1 : (cur.toList.take (m * 1))[j]? = some (Value.int .i64 0) := by rw [htk, List.getElem?_replicate, if_pos hj]
    rw [List.getElem?_take, if_pos (by omega), Array.getElem?_toList] at h1
    exact h1
theorem NumsAt.turn {w w1 : World} {S m : Nat} {vs : Nat → Int} {F : Nat → Prop} (h : NumsAt w S m vs) (ht : Turns F w w1) (hS : S < w.heap.size) (hF : ¬ F S) : NumsAt w1 S m vs := fun j hj =>
  ⟨(ht.cell (p := ⟨S, j, none⟩) hS hF).trans (h j hj).1, (World.frozen?_of_block (a := ⟨S, j, none⟩) (ht.block S hS hF)).trans (h j hj).2⟩
theorem NumsAt.ints {w : World} {S : Nat} {vs : Nat → Int} {l : List Int} (h : NumsAt w S l.length vs) (hS : S < w.heap.size) (he : ∀ j, j < l.length → vs j = l.getD j 0) : IsInts w (.slice (some ⟨S, 0, none⟩) l.length l.length) l :=
  ⟨some ⟨S, 0, none⟩, S, 0, l.length, rfl, fun _ => rfl, fun h => (by cases h), .inl hS, fun i hi => by rw [Nat.zero_add, (h i hi).1, he i hi]⟩
/-- The step of a loop over the map of those that were aborted. -/
theorem wp_next_outs (w : World) {ops : Array Oper} {rest : List Oper} {o : Oper} {a : Act} {Q : Exit → Act → World → Prop} (hg : o.guard = none) (it : Operand) (hop : o.op = Op.next it false) (b r n : Nat) (D : DataW Value) (left : Lit → Bool) (cnt : Nat) (l : List Int)
    (hit : a.eval it = .pointer (some ⟨r, 0, none⟩)) (h : w.ranges Tryz.prog 3 heldElem b r n D left cnt) (hh : ∀ x, Wf x → Maps.has D (.int .i64 x) = (victF l x).isSome) (hat : ∀ x v, Wf x → victF l x = some v → ∀ z, D.atKey (.int .i64 x) z = .held v)
    (hDone : cnt = 0 → (∀ kl, left kl = false) → wpList Tryz.prog ops Q rest (a.put o.dst (.tuple #[.bool false])) w)
    (hMore : ∀ (x : Int) (k : Nat) (w' : World) (cnt' : Nat), l[k]? = some x → w'.ranges Tryz.prog 3 heldElem b r n D (fun z => left z && !z.sameKey (.int .i64 x)) cnt' → cnt' < cnt →
      w.grownBy w' (some r) → w'.heap.size = w.heap.size → (Instr.entry (.pointer (some ⟨r, 0, none⟩))).run Tryz.prog w' = .ok (.tuple #[.int .i64 x, .int .i64 (k : Int)]) w' → wpList Tryz.prog ops Q rest (a.put o.dst (.tuple #[.bool true, .int .i64 x, .int .i64 (k : Int)])) w') :
    wpList Tryz.prog ops Q (o :: rest) a w := by
  refine wpList_next_ranges (α := Int) (β := Value) w hg it hop 3 KI heldElem (Value.int .i64) id (fun key kl hkey => by obtain ⟨x, rfl, _⟩ := Maps.keyOf_int_inv Tryz.underlying3 hkey; exact ⟨x, rfl⟩) (fun v y _ => ⟨v, rfl⟩) b r n D left cnt hit h hDone ?_
  intro x c kl y w' cnt' hkey hlk hv hat2 hrg hlt hgr hsz hen
  obtain ⟨x', ex, rfl, hwx⟩ := Maps.keyOf_int_inv Tryz.underlying3 hkey
  cases ex
  have hy : y.1 = .held c := by simp only [heldElem, id, Option.some.injEq] at hv; rw [← hv]
  have hhas := Maps.has_true_of_atKey hat2
  rw [hh x hwx] at hhas
  obtain ⟨u, hu⟩ := Option.isSome_iff_exists.1 hhas
  have hc : c = u := by
    have h1 := hat2 (.held c)
    rw [hat x u hwx hu, hy] at h1
    exact (DataW.held.inj h1).symm
  unfold victF at hu
  cases hp : posL l x with
  | none => rw [hp] at hu; cases hu
  | some k =>
    rw [hp] at hu
    have hu' : u = .int .i64 (k : Int) := (Option.some.inj hu).symm
    subst hc
    rw [hu'] at hen ⊢
    exact hMore x k w' cnt' (posL_at hp) hrg hlt hgr hsz hen
theorem nodupI_at {l : List Int} (h : l.Pairwise (· ≠ ·)) {i j : Nat} {x : Int} (hi : l[i]? = some x) (hj : l[j]? = some x) : i = j := by
  rcases Nat.lt_trichotomy i j with h1 | h1 | h1
  · obtain ⟨a1, a2⟩ := List.getElem?_eq_some_iff.1 hi
    obtain ⟨b1, b2⟩ := List.getElem?_eq_some_iff.1 hj
    exact absurd (a2.trans b2.symm) (List.pairwise_iff_getElem.1 h i j a1 b1 h1)
  · exact h1
  · obtain ⟨a1, a2⟩ := List.getElem?_eq_some_iff.1 hi
    obtain ⟨b1, b2⟩ := List.getElem?_eq_some_iff.1 hj
    exact absurd (b2.trans a2.symm) (List.pairwise_iff_getElem.1 h j i b1 a1 h1)
theorem made_zero (m : Nat) : (madeCells (Value.int .i64 0).cells (m * 1)).toList = List.replicate m (Value.int .i64 0) := by
  refine List.ext_getElem? fun j => ?_
  by_cases hj : j < m
  · simp [madeCells, Value.cells, Nat.mod_one, hj]
  · simp [madeCells, Value.cells, Nat.mod_one, hj]
/-- What has been laid so far. -/
def Laid (l : List Int) (left : Lit → Bool) (vs : Nat → Int) : Prop := ∀ j, j < l.length → left (.int .i64 (l.getD j 0)) = false → vs j = l.getD j 0
theorem Laid.step {l : List Int} {left : Lit → Bool} {vs : Nat → Int} (h : Laid l left vs) (hn : l.Pairwise (· ≠ ·)) {k : Nat} {x : Int} (hk : l[k]? = some x) : Laid l (fun z => left z && !z.sameKey (.int .i64 x)) fun j => if j = k then x else vs j := by
  intro j hj hl
  have hjd : l[j]? = some (l.getD j 0) := by simp [List.getD, hj]
  show (if j = k then x else vs j) = _
  have hl : (left (.int .i64 (l.getD j 0)) && !(Lit.int .i64 (l.getD j 0)).sameKey (.int .i64 x)) = false := hl
  by_cases e : j = k
  · subst e
    rw [if_pos rfl]
    rw [hk] at hjd
    exact Option.some.inj hjd
  · rw [if_neg e]
    cases hs : (Lit.int .i64 (l.getD j 0)).sameKey (.int .i64 x) with
    | true =>
      have h1 := WideAt.sameKey_eq hs
      injection h1 with _ h2
      rw [h2] at hjd
      exact absurd (nodupI_at hn hjd hk) e
    | false =>
      rw [hs] at hl
      exact h j hj (by simpa using hl)
set_option maxHeartbeats 8000000 in
set_option maxRecDepth 100000 in
theorem inOrder_run {R : Nat} {way : Int} {r : Runr} {g : Int → Option Value} {c : Lay} {P : Int → Option Op3} {w : World} (h : LaneAt w R way r g c) (hf : Fits r P) (hl : r.vict.length ≤ 6) :
    Calls Tryz.prog 15 #[.pointer (some ⟨R, 0, none⟩)] w fun e w' => ∃ ad n q, e = .returned (.slice ad n q) ∧ IsInts w' (.slice ad n q) r.vict ∧ Below w.heap.size w w' := by
  obtain ⟨vc, hvc⟩ : ∃ vc, r.vict = vc := ⟨_, rfl⟩
  have HN : Hid (vc.Pairwise (· ≠ ·)) := by show List.Pairwise _ _; rw [← hvc]; exact hf.nodup
  have c3 := h.c3
  have HL := hid_l h
  have HM : Hid (∀ W, Below w.heap.size w W → MapIs W c.A (victF vc) vc.length) := fun W hW => by have := (h.below hW).outs; rw [hvc] at this; exact this
  have hRl := h.lt
  rw [hvc] at hl ⊢
  obtain ⟨i0, hi, hz0, hs0, hy0⟩ := info_parts infoInt
  have HI : Hid (Tryz.prog.info? 3 = some i0 ∧ i0.zero = some (.int .i64 0) ∧ i0.size = 1 ∧ i0.bytes = 8) := ⟨hi, hz0, hs0, hy0⟩
  obtain ⟨m, hm⟩ : ∃ m, vc.length = m := ⟨_, rfl⟩
  have HMM := hid_l hm
  rw [hm] at hl
  have hm0 : (0 : Int) ≤ (m : Int) := by omega
  clear hi hz0 hs0 hy0 hf hvc h hm
  go_enter Tryz.func15, Tryz.ntmps15
  go_upto_region 2 with (first | (at_len; refine wp_len _ rfl (.tmp 9) 55 rfl 3 Tryz.underlying55 c.A m (victF vc) rfl (HMM.out ▸ HM.out _ (Below.refl _ _)) ?_) | (at_make; refine wpList_make_full _ rfl (.tmp 10) (.tmp 10) 24 rfl w.heap.size 3 i0 (.int .i64 0) 1 Tryz.underlying24 HI.out.1 HI.out.2.1 HI.out.2.2.1 .i64 .i64 (m : Int) (m : Int) m rfl rfl rfl rfl (by rw [HI.out.2.2.2]; omega) (by unfold maxLen; omega) (Nat.le_refl _) ?_; intro w1 hown1 hgr1))
  have HNU : Hid (NumsAt w1 w.heap.size m fun _ => 0) := nums_start hown1 (made_zero m)
  have HB1 : Hid (Below w.heap.size w w1) := ⟨hgr1.os, hgr1.tape, hgr1.output, hgr1.size, fun k hk => hgr1.block k hk (by simp)⟩
  have hS1 : w.heap.size < w1.heap.size := (hown1.lt w.heap.size rfl).2
  obtain ⟨D, hD1, hD2, hD3, hD4, -⟩ := HM.out w1 HB1.out
  have HD1 := hid_l hD1
  have HD3 := hid_l (And.intro hD3 hD4)
  obtain ⟨S, hS⟩ : ∃ S, S = w.heap.size := ⟨_, rfl⟩
  have k3 : w1.cell? ⟨R, 3, none⟩ = some (.map (some c.A)) := (HL.out.below HB1.out).c3
  have hAS : c.A ≠ S := by have := (HM.out w (Below.refl _ _)).lt; omega
  have hRS : R ≠ S := by omega
  have HSE := hid_l hS
  rw [← hS] at HNU hS1 ⊢
  clear hown1 hgr1 hD1 hD3 hD4 hS c3
  go_wp2_with (at_range; refine wpList_range_own _ rfl (.tmp 15) 55 rfl 3 3 KI Tryz.underlying55 heldElem c.A vc.length D rfl HD1.out ?_; intro w2 hrg2 hg2 hs2)
  have ht2 : Turns (fun _ => False) w1 w2 := (Turns.refl _ w1).grown hg2 fun k hk => by cases hk
  have HL2 : Hid (Laid vc (Maps.has D) fun _ => 0) := fun j hj hl => by
    exfalso
    have hmem : vc.getD j 0 ∈ vc := by simp [List.getD, hj]
    have hsm : (victF vc (vc.getD j 0)).isSome = true := by rw [victF_some, decide_eq_true hmem]
    have hr := HM.out w (Below.refl _ _)
    obtain ⟨_, _, _, _, _, h5⟩ := hr
    obtain ⟨a1, a6⟩ := h5 _ hsm
    rw [HD3.out.1 _ (wf_deal a1 a6), hsm] at hl
    cases hl
  have HST : Hid (∃ (left : Lit → Bool) (cnt : Nat) (vs : Nat → Int), w2.ranges Tryz.prog 3 heldElem c.A w1.heap.size vc.length D left cnt ∧ NumsAt w2 S m vs ∧ Laid vc left vs ∧ Below w.heap.size w w2 ∧ S < w2.heap.size) :=
    ⟨_, _, _, hrg2, HNU.out.turn ht2 hS1 (fun hf => hf), HL2.out, HB1.out.trans ((ht2.below (Nat.le_refl _) fun _ _ hf => hf).mono HB1.out.size), Nat.lt_of_lt_of_le hS1 ht2.size⟩
  have hSI : S ≠ w1.heap.size := by omega
  have hSI2 : S < w1.heap.size := by omega
  obtain ⟨I, hI⟩ : ∃ I, I = w1.heap.size := ⟨_, rfl⟩
  rw [← hI] at HST hSI hSI2 ⊢
  clear hrg2 hg2 hs2 ht2 HL2 k3 hI
  go_frame
  go_loopw [4] (fun _ wr => ∃ (left : Lit → Bool) (cnt : Nat) (vs : Nat → Int), wr.ranges Tryz.prog 3 heldElem c.A I vc.length D left cnt ∧ NumsAt wr S m vs ∧ Laid vc left vs ∧ Below w.heap.size w wr ∧ S < wr.heap.size) (fun _ wr => wr.rangeLeft c.A I)
  case atStart => exact HST.out
  case round =>
    obtain ⟨left, cnt, vs, hrg, hnu, hlaid, hbel, hSr⟩ := hrel
    have HRG := hid_l hrg
    have HNR := hid_l hnu
    have HLA := hid_l hlaid
    have HBE := hid_l hbel
    clear hrg hnu hlaid hbel HST
    go_wp2_with (at_next; refine wp_next_outs _ rfl (.tmp 16) rfl c.A I vc.length D left cnt vc rfl HRG.out HD3.out.1 HD3.out.2 ?_ ?_)
    · intro hc0 hl0
      have HEN : Hid (IsInts wr (.slice (some ⟨S, 0, none⟩) m m) vc) := by
        have h1 := HNR.out
        rw [← HMM.out] at h1 ⊢
        exact h1.ints hSr fun j hj => HLA.out j hj (hl0 _)
      clear hc0 hl0
      go_wp2_with fail
      go_ret
      exact ⟨_, _, _, rfl, HEN.out, HBE.out⟩
    · intro x k w3 cnt3 hxk hrg3 hlt3 hg3 hs3 hen3
      have hkm : k < m := by rw [← HMM.out]; exact (List.getElem?_eq_some_iff.1 hxk).1
      have ht3 : Turns (fun j => j = I) wr w3 := (Turns.refl _ wr).grown hg3 fun j hj => .inl (Option.some.inj hj).symm
      have hn3 := HNR.out.turn ht3 hSr hSI
      obtain ⟨y0, y1⟩ := hn3 k hkm
      have HN3 := hid_l hn3
      have HR3 := hid_l hrg3
      have HL3 := hid_l (HLA.out.step HN.out hxk)
      have HB3 : Hid (Below w.heap.size w w3) := by
        have h1 : ¬ I < w.heap.size := by have := HSE.out; omega
        exact HBE.out.trans (ht3.below HBE.out.size fun j hj e => h1 (e ▸ hj))
      have hS3 : S < w3.heap.size := Nat.lt_of_lt_of_le hSr ht3.size
      have hk1 : (k : Int) < (m : Int) := by omega
      have hk0 : (0 : Int) ≤ (k : Int) := by omega
      have hkn : ¬ (k : Int) < 0 := by omega
      have HLE := hid_l HRG.out.left_eq
      clear hxk hrg3 ht3 hn3 hg3
      go_wp2_with fail
      go_roundw
      case rel =>
        have hkeep : (w3.setCell ⟨S, k, none⟩ (.int .i64 x)).ranges Tryz.prog 3 heldElem c.A I vc.length D (fun z => left z && !z.sameKey (Lit.int .i64 x)) cnt3 := HR3.out.kept (row := some S) ⟨rfl, rfl, rfl, by simp, fun i hi hne => by rw [Below.heap_setCell _ _ _ _ (fun e => hne (by rw [e]))]⟩ (fun e => hAS (Option.some.inj e)) (fun e => hSI (Option.some.inj e).symm)
        exact ⟨_, cnt3, _, hkeep, HN3.out.set hkm x, HL3.out, HB3.out.setCell (by rw [HSE.out]; exact Nat.le_refl _) _, by simpa using hS3⟩
      case measure =>
        have hkeep : (w3.setCell ⟨S, k, none⟩ (.int .i64 x)).ranges Tryz.prog 3 heldElem c.A I vc.length D (fun z => left z && !z.sameKey (Lit.int .i64 x)) cnt3 := HR3.out.kept (row := some S) ⟨rfl, rfl, rfl, by simp, fun i hi hne => by rw [Below.heap_setCell _ _ _ _ (fun e => hne (by rw [e]))]⟩ (fun e => hAS (Option.some.inj e)) (fun e => hSI (Option.some.inj e).symm)
        rw [hkeep.left_eq, HLE.out]
        exact hlt3
end Go.Proofs.YthggomgmaecinaeGreatDoor
