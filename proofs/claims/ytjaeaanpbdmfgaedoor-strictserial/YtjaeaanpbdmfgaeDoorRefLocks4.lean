/-
  PROVED HERE: laneref1.Table's method Free, over a table in memory: who is held by that. Of the blocks that there were, only the table's own turn.
  Conditions: the lists are short.
-/
import Derived.Test.YtjaeaanpbdmfgaeDoorRefLocks3
namespace Go.Proofs.YtjaeaanpbdmfgaeDoor
open Go.RowKit

/-- Memory while those that wait are gone over: the table, those that have come to be held, those that are still to come. -/
structure FreeAt (w0 w : World) (ty : TypeId) (T o : Nat) (cs : Array Value) (hv0 wv0 rv : Value) (rest : List Op3) (st : Tab2 × List Op3) (hv wv ov : Value) : Prop where
  tab : TabAt w ty T o (put2 cs o hv wv) hv wv st.1
  out : w.ownsRow w0.heap.size 25 3 ov st.2.length (flat st.2)
  row : w.ownsRow w0.heap.size 25 3 rv rest.length (flat rest)
  so : ∀ g, ov.ownBlock = some g → ¬ foot T hv wv g
  sr : ∀ g, rv.ownBlock = some g → ¬ foot T hv wv g ∧ ov.ownBlock ≠ some g
  turn : Turns (foot T hv0 wv0) w0 w
  feet : ∀ k, foot T hv wv k → foot T hv0 wv0 k ∨ w0.heap.size ≤ k
theorem FreeAt.below {w0 w w1 : World} {ty : TypeId} {T o : Nat} {cs : Array Value} {hv0 wv0 rv hv wv ov : Value} {rest : List Op3} {st : Tab2 × List Op3} (h : FreeAt w0 w ty T o cs hv0 wv0 rv rest st hv wv ov) (hb : Below w.heap.size w w1) : FreeAt w0 w1 ty T o cs hv0 wv0 rv rest st hv wv ov :=
  ⟨h.tab.below hb, (Turns.of_below (F := fun _ => False) hb).own h.out fun _ _ hf => hf, (Turns.of_below (F := fun _ => False) hb).own h.row fun _ _ hf => hf, h.so, h.sr, h.turn.then_below hb, h.feet⟩
theorem FreeAt.step {w0 w w1 : World} {ty : TypeId} {T o : Nat} {cs : Array Value} {hv0 wv0 rv hv wv ov : Value} {rest : List Op3} {st : Tab2 × List Op3} {s2 : Tab2} (h : FreeAt w0 w ty T o cs hv0 wv0 rv rest st hv wv ov) (hs : TabStep w w1 ty T o (put2 cs o hv wv) hv wv s2) : ∃ hv1 wv1, FreeAt w0 w1 ty T o cs hv0 wv0 rv rest (s2, st.2) hv1 wv1 ov := by
  obtain ⟨hv1, wv1, ht, htu, hf⟩ := hs
  rw [put2_put2] at ht
  refine ⟨hv1, wv1, ht, htu.own h.out fun g hg => h.so g hg, htu.own h.row fun g hg => (h.sr g hg).1, fun g hg hk => ?_, fun g hg => ⟨fun hk => ?_, (h.sr g hg).2⟩, h.turn.trans htu fun k hk hk2 => ?_, fun k hk => ?_⟩
  · rcases hf g hk with h1 | h1
    · exact h.so g hg h1
    · have := (h.out.lt g hg).2; omega
  · rcases hf g hk with h1 | h1
    · exact (h.sr g hg).1 h1
    · have := (h.row.lt g hg).2; omega
  · rcases h.feet k hk2 with h1 | h1
    · exact h1
    · omega
  · rcases hf k hk with h1 | h1
    · exact h.feet k h1
    · exact .inr (Nat.le_trans h.turn.size h1)
theorem FreeAt.more {w0 w w1 : World} {ty : TypeId} {T o : Nat} {cs : Array Value} {hv0 wv0 rv hv wv ov ov1 : Value} {rest : List Op3} {st : Tab2 × List Op3} {ol : List Op3} (h : FreeAt w0 w ty T o cs hv0 wv0 rv rest st hv wv ov) (ht : Turns (fun k => ov.ownBlock = some k) w w1)
    (hown : w1.ownsRow w0.heap.size 25 3 ov1 ol.length (flat ol)) (hap : ∀ g, ov1.ownBlock = some g → ov.ownBlock = some g ∨ w.heap.size ≤ g) : FreeAt w0 w1 ty T o cs hv0 wv0 rv rest (st.1, ol) hv wv ov1 := by
  refine ⟨h.tab.turn ht fun k hk e => h.so k e hk, hown, ht.own h.row fun g hg e => (h.sr g hg).2 e, fun g hg hk => ?_, fun g hg => ⟨(h.sr g hg).1, fun e => ?_⟩, h.turn.trans ht fun k hk e => ?_, h.feet⟩
  · rcases hap g hg with h1 | h1
    · exact h.so g h1 hk
    · have := (h.tab.foot_lt hk).2; omega
  · rcases hap g e with h1 | h1
    · exact (h.sr g hg).2 h1
    · have := (h.row.lt g hg).2; omega
  · have := (h.out.lt k e).1; omega
theorem grants_snoc {s : Tab2 × List Op3} {l : List Op3} {k : Nat} (hk : k < l.length) : grants s (l.take (k + 1)) = grant (grants s (l.take k)) (opAt l k) := by
  rw [take_snoc hk]
  unfold grants
  rw [List.foldl_append]
  rfl
theorem grant_yes {s : Tab2 × List Op3} {x : Op3} (h1 : clearL s.1.1 x = true) (h2 : clearL s.1.2 x = true) : grant s x = ((holdL s.1.1 x, s.1.2), s.2 ++ [x]) := by
  unfold grant
  rw [if_pos (by rw [h1, h2]; rfl)]
theorem grant_no {s : Tab2 × List Op3} {x : Op3} (h : (clearL s.1.1 x && clearL s.1.2 x) = false) : grant s x = ((s.1.1, s.1.2 ++ [x]), s.2) := by
  unfold grant
  rw [if_neg (by rw [h]; decide)]
/-- What Free leaves. -/
def Freed (w w' : World) (ty : TypeId) (T o : Nat) (cs : Array Value) (hv wv v' : Value) (r : Tab2 × List Op3) : Prop := ∃ hv' wv', w'.ownsRow w.heap.size 25 3 v' r.2.length (flat r.2) ∧ TabAt w' ty T o (put2 cs o hv' wv') hv' wv' r.1 ∧ (∀ g, v'.ownBlock = some g → ¬ foot T hv' wv' g) ∧ Turns (foot T hv wv) w w' ∧ ∀ k, foot T hv' wv' k → foot T hv wv k ∨ w.heap.size ≤ k
set_option maxHeartbeats 16000000 in
set_option maxRecDepth 100000 in
theorem refFree_any (ty : TypeId) (T o : Nat) (cs : Array Value) (hv wv : Value) (s : Tab2) (t : Int) (w : World) (h : TabAt w ty T o cs hv wv s) (hl1 : s.1.length ≤ 400) (hl2 : s.2.length ≤ 400) :
    Calls Tryd.prog 8 #[.pointer (some ⟨T, o, none⟩), .int .i64 t] w fun e w' => ∃ v', e = .returned v' ∧ Freed w w' ty T o cs hv wv v' (freeT s t) := by
  obtain ⟨i0, hi, hz0, hs0, hy0⟩ := info_parts infoLock
  have HI : Hid (Tryd.prog.info? 25 = some i0 ∧ i0.zero = some (.agg #[.int .i64 0, .int .i64 0, .int .i64 0]) ∧ i0.size = 3 ∧ i0.bytes = 24) := ⟨hi, hz0, hs0, hy0⟩
  obtain ⟨ad, c, rfl, -⟩ := own_slice3 h.oh
  obtain ⟨wad, wc, rfl, -⟩ := own_slice3 h.ow
  have HT : Hid (TabAt w ty T o cs (.slice ad s.1.length c) (.slice wad s.2.length wc) s) := h
  obtain ⟨n1, hn1⟩ : ∃ n, s.1.length = n := ⟨_, rfl⟩
  obtain ⟨ln, hln⟩ : ∃ n, s.2.length = n := ⟨_, rfl⟩
  rw [hn1] at h HT hl1 ⊢
  rw [hln] at h HT hl2 ⊢
  have HN1 : Hid (s.1.length = n1) := hn1
  have HLN : Hid (s.2.length = ln) := hln
  have hTl := h.lt
  have c0 := h.c0
  have z0 := h.thaw o
  clear h hn1 hln hi hz0 hs0 hy0
  go_enter Tryd.func8, Tryd.ntmps8
  go_wp2_with fail
  refine (without_any s.1 _ t w HT.out.held (by rw [HN1.out]; omega)).mono ?_
  rintro e w1 ⟨v1, rfl, hown1, hb1⟩
  obtain ⟨ad1, cc1, rfl, -⟩ := own_slice3 hown1
  have d0 : w1.cell? ⟨T, o, none⟩ = some (.slice ad n1 c) := (hb1.cell (p := ⟨T, o, none⟩) hTl).trans c0
  have y0 : w1.frozen? ⟨T, o, none⟩ = false := (hb1.frozen (p := ⟨T, o, none⟩) hTl).trans z0
  obtain ⟨m1, hm1⟩ : ∃ m1, (withoutL s.1 t).length = m1 := ⟨_, rfl⟩
  have HM1 : Hid ((withoutL s.1 t).length = m1) := hm1
  rw [hm1] at hown1 ⊢
  have HST1 : Hid (TabStep w (w1.setCell ⟨T, o, none⟩ (.slice ad1 m1 cc1)) ty T o cs (.slice ad n1 c) (.slice wad ln wc) (withoutL s.1 t, s.2)) := tab_set0 HT.out (Turns.of_below hb1) (by rw [HM1.out]; exact own_less hown1 (by omega)) fun g hg => .inr (hown1.lt g hg).1
  clear hown1 hb1 hm1 c0 z0
  go_upto_region 2 with (fail)
  obtain ⟨X, hX⟩ : ∃ X, X = w1.setCell ⟨T, o, none⟩ (.slice ad1 m1 cc1) := ⟨_, rfl⟩
  rw [← hX] at HST1 ⊢
  clear hX d0 y0
  obtain ⟨hvX, wvX, htX, htuX, hfX⟩ := HST1.out
  obtain ⟨ad2, cc2, rfl, -⟩ := own_slice3 htX.ow
  have hTX := htX.lt
  have c1 : X.cell? ⟨T, o + 1, none⟩ = some (.slice ad2 ln cc2) := by have := htX.c1; rw [show (withoutL s.1 t, s.2).2.length = ln from HLN.out] at this; exact this
  have z1 := htX.thaw (o + 1)
  have HTX : Hid (TabAt X ty T o (put2 cs o hvX (.slice ad2 ln cc2)) hvX (.slice ad2 ln cc2) (withoutL s.1 t, s.2) ∧ Turns (foot T (.slice ad n1 c) (.slice wad ln wc)) w X ∧ ∀ k, foot T hvX (.slice ad2 ln cc2) k → foot T (.slice ad n1 c) (.slice wad ln wc) k ∨ w.heap.size ≤ k) := by
    rw [show (withoutL s.1 t, s.2).2.length = ln from HLN.out] at htX hfX
    exact ⟨htX, htuX, hfX⟩
  clear htX htuX hfX HST1
  go_wp2_with fail
  refine (without_any s.2 _ t X HTX.out.1.waits (by rw [HLN.out]; omega)).mono ?_
  rintro e w2 ⟨v2, rfl, hown2, hb2⟩
  obtain ⟨ad3, cc3, rfl, -⟩ := own_slice3 hown2
  have d1 := (hb2.cell (p := ⟨T, o + 1, none⟩) hTX).trans c1
  have y1 := (hb2.frozen (p := ⟨T, o + 1, none⟩) hTX).trans z1
  obtain ⟨rest, hrest⟩ : ∃ r, withoutL s.2 t = r := ⟨_, rfl⟩
  have HRS : Hid (withoutL s.2 t = rest) := hrest
  rw [hrest] at hown2 ⊢
  have hrl : rest.length ≤ 400 := by
    rw [← hrest]
    have h1 : (withoutL s.2 t).length ≤ s.2.length := List.length_filter_le _ _
    rw [HLN.out] at h1
    omega
  have HFR : Hid (∃ hvY wvY, FreeAt w (w2.setCell ⟨T, o + 1, none⟩ (.slice none 0 0)) ty T o cs (.slice ad n1 c) (.slice wad ln wc) (.slice ad3 rest.length cc3) rest ((withoutL s.1 t, []), []) hvY wvY (.slice none 0 0)) := by
    obtain ⟨htY, htuY⟩ := tab_none1 HTX.out.1 hb2
    rw [put2_put2] at htY
    have hsz := HTX.out.2.1.size
    have hrow : (w2.setCell ⟨T, o + 1, none⟩ (.slice none 0 0)).ownsRow X.heap.size 25 3 (.slice ad3 rest.length cc3) rest.length (flat rest) := ownsRow_setCell_below hown2 hTX _
    have hfY : ∀ k, foot T hvX (.slice none 0 0) k → foot T hvX (.slice ad2 ln cc2) k := fun k hk => by
      rcases hk with h1 | h1 | h1
      · exact .inl h1
      · exact .inr (.inl h1)
      · simp [Value.ownBlock] at h1
    refine ⟨hvX, .slice none 0 0, htY, World.ownsRow_nil _ _ _ _, own_less hrow hsz, fun g hg => by simp [Value.ownBlock] at hg, fun g hg => ⟨fun hk => ?_, by simp [Value.ownBlock]⟩, HTX.out.2.1.trans htuY fun k hk hk2 => ?_, fun k hk => HTX.out.2.2 k (hfY k hk)⟩
    · have h1 := (hrow.lt g hg).1
      have h2 := (HTX.out.1.foot_lt (hfY g hk)).2
      omega
    · rcases HTX.out.2.2 k hk2 with h1 | h1
      · exact h1
      · omega
  have HGR : Hid (freeT s t = grants ((withoutL s.1 t, []), []) rest) := by show freeT s t = _; unfold freeT; rw [HRS.out]
  clear hown2 hb2 hrest c1 z1 HTX
  go_upto_region 4 with (fail)
  obtain ⟨Y, hY⟩ : ∃ Y, Y = w2.setCell ⟨T, o + 1, none⟩ (.slice none 0 0) := ⟨_, rfl⟩
  rw [← hY] at HFR ⊢
  clear hY d1 y1
  go_wp2_with fail
  go_loopw [6, 7] (fun v6 v7 wr => ∃ (k : Nat) (hvk wvk : Value), k ≤ rest.length ∧ v7 = .int .i64 k ∧ FreeAt w wr ty T o cs (.slice ad n1 c) (.slice wad ln wc) (.slice ad3 rest.length cc3) rest (grants ((withoutL s.1 t, []), []) (rest.take k)) hvk wvk v6) (fun _ v7 _ => rest.length - (intOf v7).toNat)
  case atStart =>
    obtain ⟨hvY, wvY, hf⟩ := HFR.out
    exact ⟨0, hvY, wvY, Nat.zero_le _, rfl, hf⟩
  case round =>
    obtain ⟨k, hvk, wvk, hk, rfl, hfr⟩ := hrel
    have hgl := grants_len (rest.take k) ((withoutL s.1 t, []), [])
    have hw1 : (withoutL s.1 t).length ≤ n1 := by
      have h1 : (withoutL s.1 t).length ≤ s.1.length := List.length_filter_le _ _
      rw [HN1.out] at h1
      exact h1
    have htk : (rest.take k).length ≤ k := List.length_take_le _ _
    obtain ⟨st, hst⟩ : ∃ st, grants ((withoutL s.1 t, []), []) (rest.take k) = st := ⟨_, rfl⟩
    have HSTK : Hid (grants ((withoutL s.1 t, []), []) (rest.take k) = st) := hst
    rw [hst] at hfr hgl
    simp only [List.length_nil] at hgl
    have HGL : Hid (st.1.1.length ≤ 800 ∧ st.1.2.length ≤ 400 ∧ st.2.length ≤ 400) := ⟨by omega, by omega, by omega⟩
    clear hst hgl hw1 htk
    obtain ⟨hak, hck, ehv, -⟩ := own_slice3 hfr.tab.oh
    obtain ⟨wak, wck, ewv, -⟩ := own_slice3 hfr.tab.ow
    obtain ⟨oak, ock, eov, -⟩ := own_slice3 hfr.out
    obtain ⟨nh, hnh⟩ : ∃ n, st.1.1.length = n := ⟨_, rfl⟩
    obtain ⟨nw, hnw⟩ : ∃ n, st.1.2.length = n := ⟨_, rfl⟩
    obtain ⟨no, hno⟩ : ∃ n, st.2.length = n := ⟨_, rfl⟩
    have HNS : Hid (st.1.1.length = nh ∧ st.1.2.length = nw ∧ st.2.length = no) := ⟨hnh, hnw, hno⟩
    rw [hnh] at ehv
    rw [hnw] at ewv
    rw [hno] at eov
    subst ehv
    subst ewv
    subst eov
    have HFK : Hid (FreeAt w wr ty T o cs (.slice ad n1 c) (.slice wad ln wc) (.slice ad3 rest.length cc3) rest st (.slice hak nh hck) (.slice wak nw wck) (.slice oak no ock)) := hfr
    clear hfr hnh hnw hno
    by_cases hlt : k < rest.length
    · have hlt' : (k : Int) < (rest.length : Int) := by omega
      have hrl' : rest.length = rest.length := rfl
      obtain ⟨g, c2, hv2, -, hgl, -, e0, e1, e2⟩ := row_cells HFK.out.row rfl hlt
      simp only [Value.slice.injEq] at hv2
      obtain ⟨rfl, -, rfl⟩ := hv2
      obtain ⟨⟨t2, i2, m2⟩, ho⟩ : ∃ o : Op3, opAt rest k = o := ⟨_, rfl⟩
      have HO : Hid (opAt rest k = (t2, i2, m2)) := ho
      rw [ho] at e0 e1 e2
      simp only at e0 e1 e2
      clear ho hrl'
      have c0 := HFK.out.tab.c0
      have hTk := HFK.out.tab.lt
      obtain ⟨B, hB1, hB2⟩ : ∃ B, B ≤ wr.heap.size ∧ wr.heap.size ≤ B := ⟨_, Nat.le_refl _, Nat.le_refl _⟩
      have hne : Nonempty (Later B wr) := ⟨⟨wr, Below.refl _ _⟩⟩
      have HC : Hid (∀ y : Later B wr, Calls Tryd.prog 27 #[.slice hak nh hck, .agg #[.int .i64 t2, .int .i64 i2, .int .i64 m2]] y.W fun e w' => e = .returned (.bool (clearL st.1.1 (t2, i2, m2))) ∧ ∃ z : Later B wr, w' = z.W) := fun y => Later.at y hB1 (clear_any st.1.1 _ (t2, i2, m2) y.W ((HFK.out.tab.later y.h hB2).held) (by have := HGL.out.1; omega))
      have g0 : ∀ y : Later B wr, y.W.cell? ⟨T, o, none⟩ = some (.slice hak nh hck) := fun y => (HFK.out.tab.later y.h hB2).c0
      have g1 : ∀ y : Later B wr, y.W.cell? ⟨g, k * 3, none⟩ = some (.int .i64 t2) := fun y => (y.h.cell (p := ⟨g, k * 3, none⟩) (by simp; omega)).trans e0
      have g2 : ∀ y : Later B wr, y.W.cell? ⟨g, k * 3 + 1, none⟩ = some (.int .i64 i2) := fun y => (y.h.cell (p := ⟨g, k * 3 + 1, none⟩) (by simp; omega)).trans e1
      have g3 : ∀ y : Later B wr, y.W.cell? ⟨g, k * 3 + 2, none⟩ = some (.int .i64 m2) := fun y => (y.h.cell (p := ⟨g, k * 3 + 2, none⟩) (by simp; omega)).trans e2
      obtain ⟨b1, hb1⟩ : ∃ b1, clearL st.1.1 (t2, i2, m2) = b1 := ⟨_, rfl⟩
      rw [hb1] at HC
      have HBB1 : Hid (clearL st.1.1 (t2, i2, m2) = b1) := hb1
      have HGG : Hid (∀ y : Later B wr, y.W.cell? ⟨g, k * 3, none⟩ = some (.int .i64 t2) ∧ y.W.cell? ⟨g, k * 3 + 1, none⟩ = some (.int .i64 i2) ∧ y.W.cell? ⟨g, k * 3 + 2, none⟩ = some (.int .i64 m2)) := fun y => ⟨g1 y, g2 y, g3 y⟩
      clear hb1 e0 e1 e2
      go_wp2_with fail
      refine region_later B (by kernel_rfl) (by kernel_rfl) ?_
      repeat (first | go_big_quiet_skip | (go_big_quiet_want; go_big_quiet_op; first | go_big_quiet_on | (refine ⟨_, fun y => HC.out y, ?_⟩; go_big_quiet_on)))
      refine wpQuiet_nil ?_
      intro W2 hW2
      obtain ⟨y, hy⟩ := hW2
      obtain ⟨e0, e1, e2⟩ := HGG.out y
      rw [← hy] at e0 e1 e2
      have HF2 : Hid (FreeAt w W2 ty T o cs (.slice ad n1 c) (.slice wad ln wc) (.slice (some ⟨g, 0, none⟩) rest.length cc3) rest st (.slice hak nh hck) (.slice wak nw wck) (.slice oak no ock)) := by show FreeAt _ _ _ _ _ _ _ _ _ _ _ _ _ _; rw [hy]; exact HFK.out.below (y.h.mono hB2)
      have hg2 : g < W2.heap.size := World.block_lt_of_cell? W2 _ e0
      clear hy y g0 g1 g2 g3 HC HGG hne HFK hgl c0 hB1 hB2
      have c1 := HF2.out.tab.c1
      have hT2 := HF2.out.tab.lt
      obtain ⟨B2, hC1, hC2⟩ : ∃ B, B ≤ W2.heap.size ∧ W2.heap.size ≤ B := ⟨_, Nat.le_refl _, Nat.le_refl _⟩
      have hne : Nonempty (Later B2 W2) := ⟨⟨W2, Below.refl _ _⟩⟩
      have HC : Hid (∀ y : Later B2 W2, Calls Tryd.prog 27 #[.slice wak nw wck, .agg #[.int .i64 t2, .int .i64 i2, .int .i64 m2]] y.W fun e w' => e = .returned (.bool (clearL st.1.2 (t2, i2, m2))) ∧ ∃ z : Later B2 W2, w' = z.W) := fun y => Later.at y hC1 (clear_any st.1.2 _ (t2, i2, m2) y.W ((HF2.out.tab.later y.h hC2).waits) (by have := HGL.out.2.1; omega))
      have g0 : ∀ y : Later B2 W2, y.W.cell? ⟨T, o + 1, none⟩ = some (.slice wak nw wck) := fun y => (HF2.out.tab.later y.h hC2).c1
      have g1 : ∀ y : Later B2 W2, y.W.cell? ⟨g, k * 3, none⟩ = some (.int .i64 t2) := fun y => (y.h.cell (p := ⟨g, k * 3, none⟩) (by simp; omega)).trans e0
      have g2 : ∀ y : Later B2 W2, y.W.cell? ⟨g, k * 3 + 1, none⟩ = some (.int .i64 i2) := fun y => (y.h.cell (p := ⟨g, k * 3 + 1, none⟩) (by simp; omega)).trans e1
      have g3 : ∀ y : Later B2 W2, y.W.cell? ⟨g, k * 3 + 2, none⟩ = some (.int .i64 m2) := fun y => (y.h.cell (p := ⟨g, k * 3 + 2, none⟩) (by simp; omega)).trans e2
      obtain ⟨b2, hb2⟩ : ∃ b2, clearL st.1.2 (t2, i2, m2) = b2 := ⟨_, rfl⟩
      rw [hb2] at HC
      have HBB2 : Hid (clearL st.1.2 (t2, i2, m2) = b2) := hb2
      have HGG : Hid (∀ y : Later B2 W2, y.W.cell? ⟨g, k * 3, none⟩ = some (.int .i64 t2) ∧ y.W.cell? ⟨g, k * 3 + 1, none⟩ = some (.int .i64 i2) ∧ y.W.cell? ⟨g, k * 3 + 2, none⟩ = some (.int .i64 m2)) := fun y => ⟨g1 y, g2 y, g3 y⟩
      clear hb2 e0 e1 e2
      go_wp2_with fail
      refine region_later B2 (by kernel_rfl) (by kernel_rfl) ?_
      repeat (first | go_big_quiet_skip | (go_big_quiet_want; go_big_quiet_op; first | go_big_quiet_on | (refine ⟨_, fun y => HC.out y, ?_⟩; go_big_quiet_on)))
      refine wpQuiet_nil ?_
      intro W3 hW3
      obtain ⟨y, hy⟩ := hW3
      obtain ⟨e0, e1, e2⟩ := HGG.out y
      rw [← hy] at e0 e1 e2
      have HF3 : Hid (FreeAt w W3 ty T o cs (.slice ad n1 c) (.slice wad ln wc) (.slice (some ⟨g, 0, none⟩) rest.length cc3) rest st (.slice hak nh hck) (.slice wak nw wck) (.slice oak no ock)) := by show FreeAt _ _ _ _ _ _ _ _ _ _ _ _ _ _; rw [hy]; exact HF2.out.below (y.h.mono hC2)
      have hg3 : g < W3.heap.size := World.block_lt_of_cell? W3 _ e0
      clear hy y g0 g1 g2 g3 HC HGG hne HF2 hg2 c1 hC1 hC2 hT2
      by_cases hbb : (b1 && b2) = true
      · have hb1 : b1 = true := by revert hbb; cases b1 <;> simp
        have hb2 : b2 = true := by revert hbb; cases b1 <;> simp
        subst hb1
        subst hb2
        have HNX : Hid (grants ((withoutL s.1 t, []), []) (rest.take (k + 1)) = ((holdL st.1.1 (t2, i2, m2), st.1.2), st.2 ++ [(t2, i2, m2)])) := by show grants _ _ = _; rw [grants_snoc hlt, HSTK.out, HO.out, grant_yes HBB1.out HBB2.out]
        clear hbb
        go_wp2_with fail
        refine (hold_any ty T o (put2 cs o (.slice hak nh hck) (.slice wak nw wck)) (.slice hak nh hck) (.slice wak nw wck) st.1 (t2, i2, m2) W3 HF3.out.tab (by have := HGL.out.1; omega)).mono ?_
        rintro e w4 ⟨rfl, hst4⟩
        clear e0 e1 e2
        obtain ⟨hv4, wv4, hf4⟩ := HF3.out.step hst4
        clear hst4
        obtain ⟨g4, c4, hv5, -, hg4, -, e0, e1, e2⟩ := row_cells hf4.row rfl hlt
        simp only [Value.slice.injEq, Option.some.injEq, Addr.mk.injEq, and_true, true_and] at hv5
        obtain ⟨rfl, -⟩ := hv5
        rw [HO.out] at e0 e1 e2
        simp only at e0 e1 e2
        have HF4 : Hid (FreeAt w w4 ty T o cs (.slice ad n1 c) (.slice wad ln wc) (.slice (some ⟨g, 0, none⟩) rest.length cc3) rest ((holdL st.1.1 (t2, i2, m2), st.1.2), st.2) hv4 wv4 (.slice oak no ock)) := hf4
        have HOO : Hid (w4.ownsRow w.heap.size 25 3 (.slice oak no ock) no (flat st.2)) := by show World.ownsRow _ _ _ _ _ _ _; have := hf4.out; rw [show ((holdL st.1.1 (t2, i2, m2), st.1.2), st.2).2.length = no from HNS.out.2.2] at this; exact this
        have hno4 : no ≤ 400 := by have := HGL.out.2.2; have := HNS.out.2.2; omega
        have hs4 : w.heap.size ≤ w4.heap.size := hf4.turn.size
        clear hf4 hg3 HF3
        go_wp2_with (at_builtin; refine wpList_append_apart _ rfl (.tmp 62) (.tmp 67) 22 rfl w.heap.size 25 i0 (.agg #[.int .i64 0, .int .i64 0, .int .i64 0]) 3 24 Tryd.underlying22 HI.out.1 HI.out.2.1 HI.out.2.2.1 HI.out.2.2.2 rfl (by decide) (.slice oak no ock) no (flat st.2) rfl (HOO.out.alloc _) ⟨w4.heap.size, 0, none⟩ 1 1 (flat [(t2, i2, m2)]) rfl rfl (lock_new w4 (t2, i2, m2) _) (flat_one _) (by unfold maxLen; omega) (by omega) (by simp; omega) ?_; intro v5 w5 hown5 hgr5 hap5)
        have htu5 : Turns (fun j => (Value.slice oak no ock).ownBlock = some j) w4 w5 := ((Turns.refl _ w4).alloc _).grown hgr5 fun _ hk => .inl hk
        have hf5 := HF4.out.more (ol := st.2 ++ [(t2, i2, m2)]) htu5 (by rw [List.length_append, HNS.out.2.2, flat_append]; exact hown5) fun q hq => by
          rcases hap5 q hq with h1 | h1
          · exact .inl h1
          · exact .inr (by simp at h1; omega)
        go_roundw
        case rel => exact ⟨k + 1, hv4, wv4, by omega, by go_num, by rw [HNX.out]; exact hf5⟩
        case measure => simp [intOf]; omega
      · have hbb' : (b1 && b2) = false := by simpa using hbb
        have HNX : Hid (grants ((withoutL s.1 t, []), []) (rest.take (k + 1)) = ((st.1.1, st.1.2 ++ [(t2, i2, m2)]), st.2)) := by show grants _ _ = _; rw [grants_snoc hlt, HSTK.out, HO.out, grant_no (by rw [HBB1.out, HBB2.out]; exact hbb')]
        have c1 := HF3.out.tab.c1
        have z1 := HF3.out.tab.thaw (o + 1)
        have hT3 := HF3.out.tab.lt
        have HOW : Hid (W3.ownsRow (T + 1) 25 3 (.slice wak nw wck) nw (flat st.1.2)) := by show World.ownsRow _ _ _ _ _ _ _; have := HF3.out.tab.ow; rw [HNS.out.2.1] at this; exact this
        have hc1 : ∀ ob : Obj, (W3.alloc ob).cell? ⟨T, o + 1, none⟩ = some (.slice wak nw wck) := fun ob => by rw [World.cell?_alloc_lt _ _ ⟨T, o + 1, none⟩ hT3]; exact c1
        have hT31 : T + 1 ≤ W3.heap.size := by omega
        have hnw4 : nw ≤ 400 := by have := HGL.out.2.1; have := HNS.out.2.1; omega
        have HG : Hid (∀ v2 w2, w2.ownsRow (T + 1) 25 3 v2 (nw + 1) (flat st.1.2 ++ flat [(t2, i2, m2)]) → (W3.drew.alloc (.cells #[.int .i64 t2, .int .i64 i2, .int .i64 m2] 25)).grownBy w2 (Value.slice wak nw wck).ownBlock → (∀ g, v2.ownBlock = some g → (Value.slice wak nw wck).ownBlock = some g ∨ (W3.drew.alloc (.cells #[.int .i64 t2, .int .i64 i2, .int .i64 m2] 25)).heap.size ≤ g) → w2.cell? ⟨T, o + 1, none⟩ = some (.slice wak nw wck) ∧ w2.frozen? ⟨T, o + 1, none⟩ = false ∧ TabStep W3 (w2.setCell ⟨T, o + 1, none⟩ v2) ty T o (put2 cs o (.slice hak nh hck) (.slice wak nw wck)) (.slice hak nh hck) (.slice wak nw wck) (st.1.1, st.1.2 ++ [(t2, i2, m2)])) := fun v2 w2 hown2 hgr2 hap2 => by
          have htu : Turns (fun j => (Value.slice wak nw wck).ownBlock = some j) W3 w2 := turn_grown hgr2
          have hnT : ¬ (Value.slice wak nw wck).ownBlock = some T := fun e => by have := (HOW.out.lt T e).1; omega
          refine ⟨(htu.cell (p := ⟨T, o + 1, none⟩) hT3 hnT).trans c1, (World.frozen?_of_block (a := ⟨T, o + 1, none⟩) (htu.block T hT3 hnT)).trans z1, tab_set1 HF3.out.tab htu ?_ (apart_later hap2)⟩
          rw [List.length_append, HNS.out.2.1, flat_append]
          exact hown2
        have HB12 : Hid ((b1 && b2) = false) := hbb'
        clear z1 hbb hbb'
        cases b1 with
        | false =>
          go_wp2_with fail
          go_region_law (refine step_append_apart rfl (.tmp 73) (.tmp 78) 22 rfl (T + 1) 25 i0 (.agg #[.int .i64 0, .int .i64 0, .int .i64 0]) 3 24 Tryd.underlying22 HI.out.1 HI.out.2.1 HI.out.2.2.1 HI.out.2.2.2 rfl (by decide) (.slice wak nw wck) nw (flat st.1.2) (by simp [Act.eval]) (HOW.out.alloc _) ⟨W3.heap.size, 0, none⟩ 1 1 (flat [(t2, i2, m2)]) (by simp [Act.eval]) rfl (lock_new W3 (t2, i2, m2) _) (flat_one _) (by unfold maxLen; omega) (by omega) (by simp; omega) ?_; intro v2 w2 hown2 hgr2 hap2; obtain ⟨k0, k1, k2⟩ := HG.out v2 w2 hown2 hgr2 hap2; clear hap2 hgr2; obtain ⟨ad5, c5, rfl, -⟩ := own_slice3 hown2; have HK2 : Hid (TabStep W3 (w2.setCell ⟨T, o + 1, none⟩ (.slice ad5 (nw + 1) c5)) ty T o (put2 cs o (.slice hak nh hck) (.slice wak nw wck)) (.slice hak nh hck) (.slice wak nw wck) (st.1.1, st.1.2 ++ [(t2, i2, m2)])) := k2; clear k2 hown2)
          all_goals
            obtain ⟨hv4, wv4, hf4⟩ := HF3.out.step HK2.out
            go_wp2_with fail
            go_roundw
            case rel => exact ⟨k + 1, hv4, wv4, by omega, by go_num, by rw [HNX.out]; exact hf4⟩
            case measure => simp [intOf]; omega
        | true =>
          cases b2 with
          | true => exact absurd HB12.out (by decide)
          | false =>
            go_wp2_with fail
            go_region_law (refine step_append_apart rfl (.tmp 73) (.tmp 78) 22 rfl (T + 1) 25 i0 (.agg #[.int .i64 0, .int .i64 0, .int .i64 0]) 3 24 Tryd.underlying22 HI.out.1 HI.out.2.1 HI.out.2.2.1 HI.out.2.2.2 rfl (by decide) (.slice wak nw wck) nw (flat st.1.2) (by simp [Act.eval]) (HOW.out.alloc _) ⟨W3.heap.size, 0, none⟩ 1 1 (flat [(t2, i2, m2)]) (by simp [Act.eval]) rfl (lock_new W3 (t2, i2, m2) _) (flat_one _) (by unfold maxLen; omega) (by omega) (by simp; omega) ?_; intro v2 w2 hown2 hgr2 hap2; obtain ⟨k0, k1, k2⟩ := HG.out v2 w2 hown2 hgr2 hap2; clear hap2 hgr2; obtain ⟨ad5, c5, rfl, -⟩ := own_slice3 hown2; have HK2 : Hid (TabStep W3 (w2.setCell ⟨T, o + 1, none⟩ (.slice ad5 (nw + 1) c5)) ty T o (put2 cs o (.slice hak nh hck) (.slice wak nw wck)) (.slice hak nh hck) (.slice wak nw wck) (st.1.1, st.1.2 ++ [(t2, i2, m2)])) := k2; clear k2 hown2)
            all_goals
              obtain ⟨hv4, wv4, hf4⟩ := HF3.out.step HK2.out
              go_wp2_with fail
              go_roundw
              case rel => exact ⟨k + 1, hv4, wv4, by omega, by go_num, by rw [HNX.out]; exact hf4⟩
              case measure => simp [intOf]; omega
    · have hlt' : ¬ (k : Int) < (rest.length : Int) := by omega
      obtain rfl : k = rest.length := by omega
      have HEND : Hid (freeT s t = st) := by
        show freeT s t = st
        rw [HGR.out, ← HSTK.out, List.take_length]
      go_wp2_with fail
      go_ret
      refine ⟨_, rfl, _, _, ?_, ?_, HFK.out.so, HFK.out.turn, HFK.out.feet⟩
      · rw [HEND.out]; exact HFK.out.out
      · rw [HEND.out]; exact HFK.out.tab
end Go.Proofs.YtjaeaanpbdmfgaeDoor
