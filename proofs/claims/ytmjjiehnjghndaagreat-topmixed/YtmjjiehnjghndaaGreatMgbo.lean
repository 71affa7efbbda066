/-
  PROVED HERE: locks.Table's methods hold and take, over a table in memory. Of the blocks that there were, only the table's own turn.
  Conditions: the lists are short.
  PROVED HERE: locks.Table's method take, over a table in memory: it is held, if it is at odds with none; else it waits behind all others. Of the blocks that there were, only the table's own turn.
  Conditions: the lists are short, and locks are locks.
-/
import Derived.Test.YtmjjiehnjghndaaGreatMgbm
import Derived.Test.YtmjjiehnjghndaaGreatMgbn
namespace Go.Proofs.YtmjjiehnjghndaaGreat
open Go.RowKit

set_option maxHeartbeats 8000000 in
set_option maxRecDepth 100000 in
theorem phold_any (T : Nat) (cs : Array Value) (hv wv : Value) (s : Tab2) (x : Op3) (w : World) (h : TabAt w 96 T 0 cs hv wv s) (hl : s.1.length ≤ 1000) :
    Calls Tryz.prog 103 #[.pointer (some ⟨T, 0, none⟩), lkV x] w fun e w' => e = .returned (.tuple #[]) ∧ TabStep w w' 96 T 0 cs hv wv (holdL s.1 x, s.2) := by
  obtain ⟨t, i, m⟩ := x
  obtain ⟨ad, c, rfl, -⟩ := own_slice3 h.oh
  obtain ⟨i0, hi, hz0, hs0, hy0⟩ := info_parts infoLock
  have HI : Hid (Tryz.prog.info? 99 = some i0 ∧ i0.zero = some (.agg #[.int .i64 0, .int .i64 0, .int .i64 0]) ∧ i0.size = 3 ∧ i0.bytes = 24) := ⟨hi, hz0, hs0, hy0⟩
  have HT : Hid (TabAt w 96 T 0 cs (.slice ad s.1.length c) wv s) := h
  have hTl := h.lt
  obtain ⟨n, hn⟩ : ∃ n, s.1.length = n := ⟨_, rfl⟩
  rw [hn] at HT hl ⊢
  have HN : Hid (s.1.length = n) := hn
  clear h hi hz0 hs0 hy0 hn
  go_enter Tryz.func103, Tryz.ntmps103
  go_upto_region 1 with (fail)
  obtain ⟨W, hW⟩ : ∃ W, W = w.alloc (.cells #[.int .i64 t, .int .i64 i, .int .i64 m] 99) := ⟨_, rfl⟩
  rw [← hW]
  have HLW : Hid (LockAt W w.heap.size (t, i, m)) := by show LockAt _ _ _; rw [hW]; exact lockAt_box _ _ _ _ _
  have hbW : Below w.heap.size w W := by rw [hW]; exact (Below.refl _ w).alloc (Nat.le_refl _) _
  have HTW : Hid (TabAt W 96 T 0 cs (.slice ad n c) wv s) := HT.out.below hbW
  have HBW : Hid (Below w.heap.size w W) := hbW
  have hPW : w.heap.size < W.heap.size := HLW.out.lt
  obtain ⟨P, hP⟩ : ∃ P, P = w.heap.size := ⟨_, rfl⟩
  rw [← hP] at HLW hPW hTl ⊢
  have HP : Hid (P = w.heap.size) := hP
  have c0 := HTW.out.c0
  have HIX : Hid (Calls Tryz.prog 100 #[.slice ad n c, .func (.func 114) #[] #[.pointer (some ⟨P, 0, none⟩)]] W fun r w' => ∃ k : Int, r = .returned (.int .i64 k) ∧ FirstL s.1 (fun y => likeL y (t, i, m)) k ∧ Below W.heap.size W w') := index_lock s.1 _ (fun y => likeL y (t, i, m)) _ #[.pointer (some ⟨P, 0, none⟩)] W call_had HTW.out.held (by rw [HN.out]; omega) fun W2 hW2 e _ => pHad_fn e (t, i, m) P W2 (HLW.out.below hW2 hPW)
  clear hW hbW hP
  go_wp2_with fail
  refine HIX.out.mono ?_
  rintro e V ⟨k1, rfl, hfirst, hbV⟩
  have HTV : Hid (TabAt V 96 T 0 cs (.slice ad n c) wv s) := HTW.out.below hbV
  have c0' := HTV.out.c0
  have z0 := HTV.out.thaw 0
  obtain ⟨q0, q1, q2⟩ := HLW.out.below hbV hPW
  simp only at q0 q1 q2
  have HBV : Hid (Below W.heap.size W V) := hbV
  have hsV := hbV.size
  clear hbV HIX c0 HLW
  have hohn : V.ownsRow (T + 1) 99 3 (.slice ad n c) n (flat s.1) := by have := HTV.out.oh; rw [HN.out] at this; exact this
  have HOH : Hid (V.ownsRow (T + 1) 99 3 (.slice ad n c) n (flat s.1)) := hohn
  rcases hfirst with ⟨rfl, hno⟩ | ⟨k, rfl, hk, hyes, hno⟩
  · have HH : Hid (holdL s.1 (t, i, m) = s.1 ++ [(t, i, m)]) := holdL_end fun j hj => by have := List.any_eq_false.1 hno _ (opAt_mem hj); simpa using this
    have hPV : P < V.heap.size := by omega
    have hTV : T < V.heap.size := by omega
    have hc0 : ∀ ob : Obj, (V.alloc ob).cell? ⟨T, 0, none⟩ = some (.slice ad n c) := fun ob => by rw [World.cell?_alloc_lt _ _ ⟨T, 0, none⟩ hTV]; exact c0'
    have hTW1 : T + 1 ≤ V.heap.size := by omega
    clear hohn hno
    go_wp2_with fail
    go_region_law (refine step_append_apart rfl (.tmp 26) (.tmp 28) 94 rfl (T + 1) 99 i0 (.agg #[.int .i64 0, .int .i64 0, .int .i64 0]) 3 24 Tryz.underlying94 HI.out.1 HI.out.2.1 HI.out.2.2.1 HI.out.2.2.2 rfl (by decide) (.slice ad n c) n (flat s.1) (by simp [Act.eval]) (HOH.out.alloc _) ⟨V.heap.size, 0, none⟩ 1 1 (flat [(t, i, m)]) (by simp [Act.eval]) rfl (lock_new V (t, i, m) _) (flat_one _) (by unfold maxLen; omega) (by omega) (by simp; omega) ?_; intro v2 w2 hown2 hgr2 hap2; obtain ⟨ad2, c2, rfl, -⟩ := own_slice3 hown2; have HA2 : Hid (∀ g, (Value.slice ad2 (n + 1) c2).ownBlock = some g → (Value.slice ad n c).ownBlock = some g ∨ V.heap.size ≤ g) := apart_later hap2; clear hap2; have HTU : Hid (Turns (fun j => (Value.slice ad n c).ownBlock = some j) V w2) := turn_grown hgr2; have HO2 : Hid (w2.ownsRow (T + 1) 99 3 (.slice ad2 (n + 1) c2) (n + 1) (flat s.1 ++ flat [(t, i, m)])) := hown2; have HG2 : Hid ((V.drew.alloc (.cells #[.int .i64 t, .int .i64 i, .int .i64 m] 99)).grownBy w2 (Value.slice ad n c).ownBlock) := hgr2; have g0 : w2.cell? ⟨T, 0, none⟩ = some (.slice ad n c) := (HTU.out.cell (p := ⟨T, 0, none⟩) hTV (fun e => by have := (HOH.out.lt T e).1; omega)).trans c0'; have g1 : w2.frozen? ⟨T, 0, none⟩ = false := (World.frozen?_of_block (a := ⟨T, 0, none⟩) (HTU.out.block T hTV (fun e => by have := (HOH.out.lt T e).1; omega))).trans z0; clear hown2 hgr2)
    all_goals
      have hstep : TabStep V (w2.setCell ⟨T, 0, none⟩ (.slice ad2 (n + 1) c2)) 96 T 0 cs (.slice ad n c) wv (s.1 ++ [(t, i, m)], s.2) := tab_set0 HTV.out HTU.out (by rw [List.length_append, HN.out, flat_append]; exact HO2.out) HA2.out
      go_wp2_with fail
      go_end0
      refine ⟨rfl, ?_⟩
      rw [HH.out]
      exact TabStep.later (Turns.of_below (HBW.out.trans (HBV.out.mono (by have := HP.out; omega)))) hstep
  · have HH : Hid (holdL s.1 (t, i, m) = s.1.set k (t, i, m)) := holdL_at hk (fun j hj => any_take_not hno hj (by omega)) hyes
    have hkn : k < n := by rw [HN.out] at hk; exact hk
    have hkn' : (k : Int) < (n : Int) := by omega
    obtain ⟨g, c2, hv2, hTg, hgl, hfz, e0, e1, e2⟩ := row_cells hohn HN.out hkn
    simp only [Value.slice.injEq] at hv2
    obtain ⟨rfl, -, rfl⟩ := hv2
    obtain ⟨⟨t2, i2, m2⟩, ho⟩ : ∃ o : Op3, opAt s.1 k = o := ⟨_, rfl⟩
    rw [ho] at e0 e1 e2
    simp only at e0 e1 e2
    have y0 := hfz (k * 3)
    have y1 := hfz (k * 3 + 1)
    have y2 := hfz (k * 3 + 2)
    clear hfz hohn ho hyes hno
    have hge : (0 : Int) ≤ (k : Int) := by omega
    go_wp2_with fail
    go_region
    have hbq : Below V.heap.size V V.drew := below_drewN (Below.refl _ _) 1
    have hstep := tab_put (HTV.out.below hbq) HN.out hkn (t, i, m)
    go_wp2_with fail
    refine bodyPost_ret (results_none Tryz.results103 _ _ _) rfl ⟨rfl, ?_⟩
    rw [HH.out]
    exact TabStep.later (Turns.of_below (HBW.out.trans ((HBV.out.mono (by have := HP.out; omega)).trans (hbq.mono (by have := HP.out; omega))))) hstep
theorem hid_of {p : Prop} (h : p) : Hid p := h
/-- What take answers and leaves, as grant has it. -/
def takeT (s : Tab2) (x : Op3) : Bool × Tab2 := if (clearL s.1 x && clearL s.2 x) = true then (true, (holdL s.1 x, s.2)) else (false, (s.1, s.2 ++ [x]))
end Go.Proofs.YtmjjiehnjghndaaGreat

namespace Go.Proofs.YtmjjiehnjghndaaGreat
open Go.RowKit

set_option maxHeartbeats 8000000 in
set_option maxRecDepth 100000 in
theorem take_any (T : Nat) (cs : Array Value) (hv wv : Value) (s : Tab2) (x : Op3) (w : World) (h : TabAt w 96 T 0 cs hv wv s) (hl1 : s.1.length ≤ 900) (hl2 : s.2.length ≤ 900) (hok1 : ∀ y ∈ s.1, isLock y = true) (hok2 : ∀ y ∈ s.2, isLock y = true) (hx : isLock x = true) :
    Calls Tryz.prog 79 #[.pointer (some ⟨T, 0, none⟩), lkV x] w fun e w' => e = .returned (.bool (takeT s x).1) ∧ TabStep w w' 96 T 0 cs hv wv (takeT s x).2 := by
  have HC1 : Hid (s.1.any (fun y => loddP y x) = !clearL s.1 x) := clearP_eq hok1 hx
  have HC2 : Hid (s.2.any (fun y => loddP y x) = !clearL s.2 x) := clearP_eq hok2 hx
  clear hok1 hok2 hx
  obtain ⟨t, i, m⟩ := x
  obtain ⟨i0, hi, hz0, hs0, hy0⟩ := info_parts infoLock
  have HI : Hid (Tryz.prog.info? 99 = some i0 ∧ i0.zero = some (.agg #[.int .i64 0, .int .i64 0, .int .i64 0]) ∧ i0.size = 3 ∧ i0.bytes = 24) := ⟨hi, hz0, hs0, hy0⟩
  obtain ⟨ad, c, rfl, -⟩ := own_slice3 h.oh
  obtain ⟨wad, wc, rfl, -⟩ := own_slice3 h.ow
  obtain ⟨n1, hn1⟩ : ∃ n, s.1.length = n := ⟨_, rfl⟩
  obtain ⟨ln, hln⟩ : ∃ n, s.2.length = n := ⟨_, rfl⟩
  rw [hn1] at h hl1 ⊢
  rw [hln] at h hl2 ⊢
  have HN1 : Hid (s.1.length = n1) := hn1
  have HLN : Hid (s.2.length = ln) := hln
  have HT : Hid (TabAt w 96 T 0 cs (.slice ad n1 c) (.slice wad ln wc) s) := h
  have hTl := h.lt
  clear h hi hz0 hs0 hy0 hn1 hln
  go_enter Tryz.func79, Tryz.ntmps79
  go_upto_region 1 with (fail)
  obtain ⟨W, hW⟩ : ∃ W, W = w.alloc (.cells #[.int .i64 t, .int .i64 i, .int .i64 m] 99) := ⟨_, rfl⟩
  rw [← hW]
  have hLW : LockAt W w.heap.size (t, i, m) := by rw [hW]; exact lockAt_box _ _ _ _ _
  have hbW : Below w.heap.size w W := by rw [hW]; exact (Below.refl _ w).alloc (Nat.le_refl _) _
  have hPW : w.heap.size < W.heap.size := hLW.lt
  obtain ⟨P, hP⟩ : ∃ P, P = w.heap.size := ⟨_, rfl⟩
  rw [← hP] at hLW hPW hTl ⊢
  have HP : Hid (P = w.heap.size) := hP
  have HBW : Hid (Below w.heap.size w W) := hbW
  have HLW : Hid (LockAt W P (t, i, m)) := hLW
  obtain ⟨p0, p1, p2⟩ := hLW
  simp only at p0 p1 p2
  clear hW hbW hP
  go_wp2_with fail
  refine (pOdds_any (t, i, m) W).mono ?_
  rintro e X ⟨rfl, hLX, hbX⟩
  have HLP : Hid (LockAt X P (t, i, m)) := HLW.out.below hbX hPW
  have HBX : Hid (Below w.heap.size w X) := HBW.out.trans (hbX.mono (by have := HP.out; omega))
  have hQX : W.heap.size < X.heap.size := hLX.lt
  obtain ⟨Q, hQ⟩ : ∃ Q, Q = W.heap.size := ⟨_, rfl⟩
  rw [← hQ] at hLX hQX hPW ⊢
  have HTX : Hid (TabAt X 96 T 0 cs (.slice ad n1 c) (.slice wad ln wc) s) := HT.out.below HBX.out
  have HLX : Hid (LockAt X Q (t, i, m)) := hLX
  have c0 := HTX.out.c0
  clear p0 p1 p2 hLX hbX HLW HBW hQ
  have HCA : Hid (Calls Tryz.prog 75 #[.slice ad n1 c, .func (.func 113) #[] #[.pointer (some ⟨Q, 0, none⟩)]] X fun r w' => r = .returned (.bool (!clearL s.1 (t, i, m))) ∧ Below X.heap.size X w') := by
    show Calls _ _ _ _ _
    rw [← HC1.out]
    exact contains_lock s.1 _ (fun y => loddP y (t, i, m)) _ #[.pointer (some ⟨Q, 0, none⟩)] X call_odds HTX.out.held (by rw [HN1.out]; omega) fun W2 hW2 e _ => pOdds_fn e (t, i, m) Q W2 (HLX.out.below hW2 hQX)
  go_wp2_with fail
  refine HCA.out.mono ?_
  rintro e Y ⟨rfl, hbY⟩
  have HTY : Hid (TabAt Y 96 T 0 cs (.slice ad n1 c) (.slice wad ln wc) s) := HTX.out.below hbY
  have HLY : Hid (LockAt Y P (t, i, m)) := HLP.out.below hbY (by omega)
  have HBY : Hid (Below w.heap.size w Y) := HBX.out.trans (hbY.mono HBX.out.size)
  have c1 := HTY.out.c1
  have hPY : P < Y.heap.size := HLY.out.lt
  have HLQ : Hid (LockAt Y Q (t, i, m)) := HLX.out.below hbY hQX
  have hQY : Q < Y.heap.size := HLQ.out.lt
  have HCB : Hid (Calls Tryz.prog 75 #[.slice wad ln wc, .func (.func 113) #[] #[.pointer (some ⟨Q, 0, none⟩)]] Y fun r w' => r = .returned (.bool (!clearL s.2 (t, i, m))) ∧ Below Y.heap.size Y w') := by
    show Calls _ _ _ _ _
    rw [← HC2.out]
    exact contains_lock s.2 _ (fun y => loddP y (t, i, m)) _ #[.pointer (some ⟨Q, 0, none⟩)] Y call_odds HTY.out.waits (by rw [HLN.out]; omega) fun W2 hW2 e _ => pOdds_fn e (t, i, m) Q W2 (HLQ.out.below hW2 hQY)
  obtain ⟨b1, hb1⟩ : ∃ b1, clearL s.1 (t, i, m) = b1 := ⟨_, rfl⟩
  obtain ⟨b2, hb2⟩ : ∃ b2, clearL s.2 (t, i, m) = b2 := ⟨_, rfl⟩
  rw [hb2] at HCB
  rw [hb1]
  have HB1 : Hid (clearL s.1 (t, i, m) = b1) := hb1
  have HB2 : Hid (clearL s.2 (t, i, m) = b2) := hb2
  clear hb1 hb2 hbY HCA HTX HLP HBX HLX HC1 HC2 c0 HT
  have HWAIT : Hid (∀ (Z : World), Below w.heap.size w Z → LockAt Z P (t, i, m) → TabAt Z 96 T 0 cs (.slice ad n1 c) (.slice wad ln wc) s → Z.cell? ⟨T, 0 + 1, none⟩ = some (.slice wad ln wc) ∧ Z.frozen? ⟨T, 0 + 1, none⟩ = false ∧ T + 1 ≤ Z.heap.size ∧ Z.ownsRow (T + 1) 99 3 (.slice wad ln wc) ln (flat s.2) ∧ ∀ v2 w2, w2.ownsRow (T + 1) 99 3 v2 (ln + 1) (flat s.2 ++ flat [(t, i, m)]) → (Z.drew.alloc (.cells #[.int .i64 t, .int .i64 i, .int .i64 m] 99)).grownBy w2 (Value.slice wad ln wc).ownBlock → (∀ g, v2.ownBlock = some g → (Value.slice wad ln wc).ownBlock = some g ∨ (Z.drew.alloc (.cells #[.int .i64 t, .int .i64 i, .int .i64 m] 99)).heap.size ≤ g) → w2.cell? ⟨T, 0 + 1, none⟩ = some (.slice wad ln wc) ∧ w2.frozen? ⟨T, 0 + 1, none⟩ = false ∧ TabStep w (w2.setCell ⟨T, 0 + 1, none⟩ v2) 96 T 0 cs (.slice ad n1 c) (.slice wad ln wc) (s.1, s.2 ++ [(t, i, m)])) := fun Z hbZ hLZ hTZ => by
    have hT3 := hTZ.lt
    have how : Z.ownsRow (T + 1) 99 3 (.slice wad ln wc) ln (flat s.2) := by have := hTZ.ow; rw [HLN.out] at this; exact this
    refine ⟨hTZ.c1, hTZ.thaw (0 + 1), hT3, how, fun v2 w2 hown2 hgr2 hap2 => ?_⟩
    have htu : Turns (fun j => (Value.slice wad ln wc).ownBlock = some j) Z w2 := turn_grown hgr2
    have hnT : ¬ (Value.slice wad ln wc).ownBlock = some T := fun e => by have := (how.lt T e).1; omega
    refine ⟨(htu.cell (p := ⟨T, 0 + 1, none⟩) hT3 hnT).trans hTZ.c1, (World.frozen?_of_block (a := ⟨T, 0 + 1, none⟩) (htu.block T hT3 hnT)).trans (hTZ.thaw (0 + 1)), TabStep.later (Turns.of_below hbZ) (tab_set1 hTZ htu ?_ (apart_later hap2))⟩
    rw [List.length_append, HLN.out, flat_append]
    exact hown2
  cases b1 with
  | false =>
    have HR : Hid (takeT s (t, i, m) = (false, (s.1, s.2 ++ [(t, i, m)]))) := by show takeT _ _ = _; unfold takeT; rw [HB1.out, if_neg (by simp)]
    obtain ⟨k1, z1, hT1, how, hgo⟩ := HWAIT.out Y HBY.out HLY.out HTY.out
    have HOW : Hid (Y.ownsRow (T + 1) 99 3 (.slice wad ln wc) ln (flat s.2)) := how
    have HGO := hid_of hgo
    obtain ⟨q0, q1, q2⟩ := HLY.out
    simp only at q0 q1 q2
    clear how hgo z1 c1 HCB
    simp only [Nat.zero_add] at k1
    have hTY : T < Y.heap.size := by omega
    have hc1 : ∀ ob : Obj, (Y.alloc ob).cell? ⟨T, 1, none⟩ = some (.slice wad ln wc) := fun ob => by rw [World.cell?_alloc_lt _ _ ⟨T, 1, none⟩ hTY]; exact k1
    go_wp2_with fail
    go_region_law (refine step_append_apart rfl (.tmp 26) (.tmp 28) 94 rfl (T + 1) 99 i0 (.agg #[.int .i64 0, .int .i64 0, .int .i64 0]) 3 24 Tryz.underlying94 HI.out.1 HI.out.2.1 HI.out.2.2.1 HI.out.2.2.2 rfl (by decide) (.slice wad ln wc) ln (flat s.2) (by simp [Act.eval]) (HOW.out.alloc _) ⟨Y.heap.size, 0, none⟩ 1 1 (flat [(t, i, m)]) (by simp [Act.eval]) rfl (lock_new Y (t, i, m) _) (flat_one _) (by unfold maxLen; omega) (by omega) (by simp; omega) ?_; intro v2 w2 hown2 hgr2 hap2; obtain ⟨g0, g1, g2⟩ := HGO.out v2 w2 hown2 hgr2 hap2; clear hap2 hgr2; obtain ⟨ad5, c5, rfl, -⟩ := own_slice3 hown2; have HK2 : Hid (TabStep w (w2.setCell ⟨T, 0 + 1, none⟩ (.slice ad5 (ln + 1) c5)) 96 T 0 cs (.slice ad n1 c) (.slice wad ln wc) (s.1, s.2 ++ [(t, i, m)])) := g2; clear g2 hown2; simp only [Nat.zero_add] at g0 g1)
    all_goals
      go_wp2_with fail
      go_ret
      refine ⟨by rw [HR.out]; rfl, ?_⟩
      rw [HR.out]
      exact HK2.out
  | true =>
    cases b2 with
    | false =>
      have HR : Hid (takeT s (t, i, m) = (false, (s.1, s.2 ++ [(t, i, m)]))) := by show takeT _ _ = _; unfold takeT; rw [HB2.out, if_neg (by simp)]
      go_wp2_with fail
      refine HCB.out.mono ?_
      rintro e Z ⟨rfl, hbZ⟩
      have HLZ : Hid (LockAt Z P (t, i, m)) := HLY.out.below hbZ hPY
      obtain ⟨k1, z1, hT1, how, hgo⟩ := HWAIT.out Z (HBY.out.trans (hbZ.mono HBY.out.size)) HLZ.out (HTY.out.below hbZ)
      have HOW : Hid (Z.ownsRow (T + 1) 99 3 (.slice wad ln wc) ln (flat s.2)) := how
      have HGO := hid_of hgo
      obtain ⟨q0, q1, q2⟩ := HLZ.out
      simp only at q0 q1 q2
      clear how hgo z1 c1 HCB hbZ
      simp only [Nat.zero_add] at k1
      have hTY : T < Z.heap.size := by omega
      have hPZ : P < Z.heap.size := HLZ.out.lt
      have hc1 : ∀ ob : Obj, (Z.alloc ob).cell? ⟨T, 1, none⟩ = some (.slice wad ln wc) := fun ob => by rw [World.cell?_alloc_lt _ _ ⟨T, 1, none⟩ hTY]; exact k1
      go_wp2_with fail
      go_region_law (refine step_append_apart rfl (.tmp 26) (.tmp 28) 94 rfl (T + 1) 99 i0 (.agg #[.int .i64 0, .int .i64 0, .int .i64 0]) 3 24 Tryz.underlying94 HI.out.1 HI.out.2.1 HI.out.2.2.1 HI.out.2.2.2 rfl (by decide) (.slice wad ln wc) ln (flat s.2) (by simp [Act.eval]) (HOW.out.alloc _) ⟨Z.heap.size, 0, none⟩ 1 1 (flat [(t, i, m)]) (by simp [Act.eval]) rfl (lock_new Z (t, i, m) _) (flat_one _) (by unfold maxLen; omega) (by omega) (by simp; omega) ?_; intro v2 w2 hown2 hgr2 hap2; obtain ⟨g0, g1, g2⟩ := HGO.out v2 w2 hown2 hgr2 hap2; clear hap2 hgr2; obtain ⟨ad5, c5, rfl, -⟩ := own_slice3 hown2; have HK2 : Hid (TabStep w (w2.setCell ⟨T, 0 + 1, none⟩ (.slice ad5 (ln + 1) c5)) 96 T 0 cs (.slice ad n1 c) (.slice wad ln wc) (s.1, s.2 ++ [(t, i, m)])) := g2; clear g2 hown2; simp only [Nat.zero_add] at g0 g1)
      all_goals
        go_wp2_with fail
        go_ret
        refine ⟨by rw [HR.out]; rfl, ?_⟩
        rw [HR.out]
        exact HK2.out
    | true =>
      have HR : Hid (takeT s (t, i, m) = (true, (holdL s.1 (t, i, m), s.2))) := by show takeT _ _ = _; unfold takeT; rw [HB1.out, HB2.out, if_pos (by decide)]
      go_wp2_with fail
      refine HCB.out.mono ?_
      rintro e Z ⟨rfl, hbZ⟩
      have HTZ : Hid (TabAt Z 96 T 0 cs (.slice ad n1 c) (.slice wad ln wc) s) := HTY.out.below hbZ
      have HBZ : Hid (Below w.heap.size w Z) := HBY.out.trans (hbZ.mono HBY.out.size)
      obtain ⟨q0, q1, q2⟩ := HLY.out.below hbZ hPY
      simp only at q0 q1 q2
      clear hbZ HCB c1
      go_wp2_with fail
      refine (phold_any T cs _ _ s (t, i, m) Z HTZ.out (by rw [HN1.out]; omega)).mono ?_
      rintro e V ⟨rfl, hst⟩
      have HST := hid_of hst
      clear hst q0 q1 q2
      go_wp2_with fail
      go_ret
      refine ⟨by rw [HR.out]; rfl, ?_⟩
      rw [HR.out]
      exact TabStep.later (Turns.of_below HBZ.out) HST.out
end Go.Proofs.YtmjjiehnjghndaaGreat
