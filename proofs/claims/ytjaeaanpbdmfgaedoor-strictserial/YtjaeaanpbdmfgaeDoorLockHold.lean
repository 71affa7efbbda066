/-
  PROVED HERE: locks.Table's methods hold and take, over a table in memory. Of the blocks that there were, only the table's own turn.
  Conditions: the lists are short.
-/
import Derived.Test.YtjaeaanpbdmfgaeDoorRefLocks1
import Derived.Test.YtjaeaanpbdmfgaeDoorLockFn
namespace Go.Proofs.YtjaeaanpbdmfgaeDoor
open Go.RowKit

set_option maxHeartbeats 8000000 in
set_option maxRecDepth 100000 in
theorem phold_any (T : Nat) (cs : Array Value) (hv wv : Value) (s : Tab2) (x : Op3) (w : World) (h : TabAt w 62 T 0 cs hv wv s) (hl : s.1.length ≤ 1000) :
    Calls Tryd.prog 55 #[.pointer (some ⟨T, 0, none⟩), lkV x] w fun e w' => e = .returned (.tuple #[]) ∧ TabStep w w' 62 T 0 cs hv wv (holdL s.1 x, s.2) := by
  obtain ⟨t, i, m⟩ := x
  obtain ⟨ad, c, rfl, -⟩ := own_slice3 h.oh
  obtain ⟨i0, hi, hz0, hs0, hy0⟩ := info_parts infoLock
  have HI : Hid (Tryd.prog.info? 25 = some i0 ∧ i0.zero = some (.agg #[.int .i64 0, .int .i64 0, .int .i64 0]) ∧ i0.size = 3 ∧ i0.bytes = 24) := ⟨hi, hz0, hs0, hy0⟩
  have HT : Hid (TabAt w 62 T 0 cs (.slice ad s.1.length c) wv s) := h
  have hTl := h.lt
  obtain ⟨n, hn⟩ : ∃ n, s.1.length = n := ⟨_, rfl⟩
  rw [hn] at HT hl ⊢
  have HN : Hid (s.1.length = n) := hn
  clear h hi hz0 hs0 hy0 hn
  go_enter Tryd.func55, Tryd.ntmps55
  go_upto_region 1 with (fail)
  obtain ⟨W, hW⟩ : ∃ W, W = w.alloc (.cells #[.int .i64 t, .int .i64 i, .int .i64 m] 25) := ⟨_, rfl⟩
  rw [← hW]
  have HLW : Hid (LockAt W w.heap.size (t, i, m)) := by show LockAt _ _ _; rw [hW]; exact lockAt_box _ _ _ _ _
  have hbW : Below w.heap.size w W := by rw [hW]; exact (Below.refl _ w).alloc (Nat.le_refl _) _
  have HTW : Hid (TabAt W 62 T 0 cs (.slice ad n c) wv s) := HT.out.below hbW
  have HBW : Hid (Below w.heap.size w W) := hbW
  have hPW : w.heap.size < W.heap.size := HLW.out.lt
  obtain ⟨P, hP⟩ : ∃ P, P = w.heap.size := ⟨_, rfl⟩
  rw [← hP] at HLW hPW hTl ⊢
  have HP : Hid (P = w.heap.size) := hP
  have c0 := HTW.out.c0
  have HIX : Hid (Calls Tryd.prog 41 #[.slice ad n c, .func (.func 66) #[] #[.pointer (some ⟨P, 0, none⟩)]] W fun r w' => ∃ k : Int, r = .returned (.int .i64 k) ∧ FirstL s.1 (fun y => likeL y (t, i, m)) k ∧ Below W.heap.size W w') := index_lock s.1 _ (fun y => likeL y (t, i, m)) _ #[.pointer (some ⟨P, 0, none⟩)] W call_had HTW.out.held (by rw [HN.out]; omega) fun W2 hW2 e _ => pHad_fn e (t, i, m) P W2 (HLW.out.below hW2 hPW)
  clear hW hbW hP
  go_wp2_with fail
  refine HIX.out.mono ?_
  rintro e V ⟨k1, rfl, hfirst, hbV⟩
  have HTV : Hid (TabAt V 62 T 0 cs (.slice ad n c) wv s) := HTW.out.below hbV
  have c0' := HTV.out.c0
  have z0 := HTV.out.thaw 0
  obtain ⟨q0, q1, q2⟩ := HLW.out.below hbV hPW
  simp only at q0 q1 q2
  have HBV : Hid (Below W.heap.size W V) := hbV
  have hsV := hbV.size
  clear hbV HIX c0 HLW
  have hohn : V.ownsRow (T + 1) 25 3 (.slice ad n c) n (flat s.1) := by have := HTV.out.oh; rw [HN.out] at this; exact this
  have HOH : Hid (V.ownsRow (T + 1) 25 3 (.slice ad n c) n (flat s.1)) := hohn
  rcases hfirst with ⟨rfl, hno⟩ | ⟨k, rfl, hk, hyes, hno⟩
  · have HH : Hid (holdL s.1 (t, i, m) = s.1 ++ [(t, i, m)]) := holdL_end fun j hj => by have := List.any_eq_false.1 hno _ (opAt_mem hj); simpa using this
    have hPV : P < V.heap.size := by omega
    have hTV : T < V.heap.size := by omega
    have hc0 : ∀ ob : Obj, (V.alloc ob).cell? ⟨T, 0, none⟩ = some (.slice ad n c) := fun ob => by rw [World.cell?_alloc_lt _ _ ⟨T, 0, none⟩ hTV]; exact c0'
    have hTW1 : T + 1 ≤ V.heap.size := by omega
    clear hohn hno
    go_wp2_with fail
    go_region_law (refine step_append_apart rfl (.tmp 26) (.tmp 28) 22 rfl (T + 1) 25 i0 (.agg #[.int .i64 0, .int .i64 0, .int .i64 0]) 3 24 Tryd.underlying22 HI.out.1 HI.out.2.1 HI.out.2.2.1 HI.out.2.2.2 rfl (by decide) (.slice ad n c) n (flat s.1) (by simp [Act.eval]) (HOH.out.alloc _) ⟨V.heap.size, 0, none⟩ 1 1 (flat [(t, i, m)]) (by simp [Act.eval]) rfl (lock_new V (t, i, m) _) (flat_one _) (by unfold maxLen; omega) (by omega) (by simp; omega) ?_; intro v2 w2 hown2 hgr2 hap2; obtain ⟨ad2, c2, rfl, -⟩ := own_slice3 hown2; have HA2 : Hid (∀ g, (Value.slice ad2 (n + 1) c2).ownBlock = some g → (Value.slice ad n c).ownBlock = some g ∨ V.heap.size ≤ g) := apart_later hap2; clear hap2; have HTU : Hid (Turns (fun j => (Value.slice ad n c).ownBlock = some j) V w2) := turn_grown hgr2; have HO2 : Hid (w2.ownsRow (T + 1) 25 3 (.slice ad2 (n + 1) c2) (n + 1) (flat s.1 ++ flat [(t, i, m)])) := hown2; have HG2 : Hid ((V.drew.alloc (.cells #[.int .i64 t, .int .i64 i, .int .i64 m] 25)).grownBy w2 (Value.slice ad n c).ownBlock) := hgr2; have g0 : w2.cell? ⟨T, 0, none⟩ = some (.slice ad n c) := (HTU.out.cell (p := ⟨T, 0, none⟩) hTV (fun e => by have := (HOH.out.lt T e).1; omega)).trans c0'; have g1 : w2.frozen? ⟨T, 0, none⟩ = false := (World.frozen?_of_block (a := ⟨T, 0, none⟩) (HTU.out.block T hTV (fun e => by have := (HOH.out.lt T e).1; omega))).trans z0; clear hown2 hgr2)
    all_goals
      have hstep : TabStep V (w2.setCell ⟨T, 0, none⟩ (.slice ad2 (n + 1) c2)) 62 T 0 cs (.slice ad n c) wv (s.1 ++ [(t, i, m)], s.2) := tab_set0 HTV.out HTU.out (by rw [List.length_append, HN.out, flat_append]; exact HO2.out) HA2.out
      go_wp2_with fail
      go_end0
      refine ⟨rfl, ?_⟩
      rw [HH.out]
      exact TabStep.later (Turns.of_below (HBW.out.trans (HBV.out.mono (by have := HP.out; omega)))) hstep
  · have HH : Hid (holdL s.1 (t, i, m) = s.1.set k (t, i, m)) := holdL_at hk (fun j hj => any_take_not hno hj (by omega)) hyes
    have hkn : k < n := by rw [HN.out] at hk; exact hk
    have hkn' : (k : Int) < (n : Int) := by omega
    obtain ⟨g, c2, hv2, hTg, hgl, hfz, e0, e1, e2⟩ := row_cells hohn HN.out hkn
    simp only [Value.slice.injEq] at hv2
    obtain ⟨rfl, -, rfl⟩ := hv2
    obtain ⟨⟨t2, i2, m2⟩, ho⟩ : ∃ o : Op3, opAt s.1 k = o := ⟨_, rfl⟩
    rw [ho] at e0 e1 e2
    simp only at e0 e1 e2
    have y0 := hfz (k * 3)
    have y1 := hfz (k * 3 + 1)
    have y2 := hfz (k * 3 + 2)
    clear hfz hohn ho hyes hno
    have hge : (0 : Int) ≤ (k : Int) := by omega
    go_wp2_with fail
    go_region
    have hbq : Below V.heap.size V V.drew := below_drewN (Below.refl _ _) 1
    have hstep := tab_put (HTV.out.below hbq) HN.out hkn (t, i, m)
    go_wp2_with fail
    refine bodyPost_ret (results_none Tryd.results55 _ _ _) rfl ⟨rfl, ?_⟩
    rw [HH.out]
    exact TabStep.later (Turns.of_below (HBW.out.trans ((HBV.out.mono (by have := HP.out; omega)).trans (hbq.mono (by have := HP.out; omega))))) hstep
theorem hid_of {p : Prop} (h : p) : Hid p := h
/-- What take answers and leaves, as grant has it. -/
def takeT (s : Tab2) (x : Op3) : Bool × Tab2 := if (clearL s.1 x && clearL s.2 x) = true then (true, (holdL s.1 x, s.2)) else (false, (s.1, s.2 ++ [x]))
end Go.Proofs.YtjaeaanpbdmfgaeDoor
