/-
  PROVED HERE: package course: what a run comes to is told: who is done, what these saw, who wrote each item last. Old memory stays as it was.
  Conditions: the lists are short.
  PROVED HERE: package course: Whole and Run, by any two rules, go over ops as chapters 11 to 14 have it for such rules; package valid keeps what it is asked (RunsC). Old memory stays as it was.
  Conditions: what the rules answer is a premise of the first.
-/
import Derived.Test.YtccjognnehoodafDoorMgbl
namespace Go.Proofs.YtccjognnehoodafDoor
open Go.RowKit

/-- A call of a Go function by its contract, as one step of a region that draws. -/
theorem step_callQ {P : Program} {ops : Array Oper} {o : Oper} {a : Act} {w : World} {K : Act → World → Prop} {Q : Exit → Act → World → Prop} {E : Prop}
    (hgd : o.guard = none) (N : FuncId) (A : Array Operand) (T : Array TypeId) (ho : o.op = .call { callee := .value (.func N), args := A, argTypes := T })
    (vals : Array Value) (hv : A.map a.eval = vals) (hent : ∀ args W, (callFunc N args).run P W = .ok (.enter N args) W) (v : Value) (R : World → Prop)
    (hc : Calls P N vals w fun e w' => e = .returned v ∧ R w') (h : ∀ w', R w' → K (a.put o.dst v) w') :
    if Region.wanted o (yielded ops a.tmps) = true then Oper.wp P o a w K Q else E := by
  have hw : Region.wanted o (yielded ops a.tmps) = true := by simp [Region.wanted, hgd]
  rw [if_pos hw]
  have hrun : (execOp a.eval o).run P w = .ok (.enter N vals) w := by
    have h1 : a.eval (.func N) = .func (.func N) #[] #[] := rfl
    simp [execOp, ho, resolve, h1, hv, Deferred.ofValue, invoke, hent]
  unfold Oper.wp
  rw [hrun]
  show Calls P N vals w _
  refine hc.mono ?_
  rintro e w' ⟨rfl, hR⟩
  exact h w' hR
theorem outcome_infoQ : (Tryd.prog.info? 26).map (fun i => i.size) = some 3 := by kernel_rfl
/-- An outcome that is being made; w: ahead of it. -/
structure COut (w wr : World) (Z U : Nat) (dv sv lv : Value) (se : List Op3) (la : List Int) : Prop where
  res : wr.heap[Z]? = some (.cells #[.slice none 0 0, .slice none 0 0, .slice none 0 0] 26 (0, 0))
  blk : wr.heap[U]? = some (.cells #[dv, sv, lv] 26 (0, 0))
  seen : wr.ownsRow w.heap.size 63 3 sv se.length (flat se)
  last : wr.ownsRow w.heap.size 3 1 lv la.length (la.map (Value.int .i64))
  old : Below w.heap.size w wr
  newU : w.heap.size ≤ U
  zu : Z ≠ U
  sz : ∀ k, sv.ownBlock = some k → k ≠ Z ∧ k ≠ U
  lz : ∀ k, lv.ownBlock = some k → k ≠ Z ∧ k ≠ U
  sl : ∀ k, sv.ownBlock = some k → ¬ lv.ownBlock = some k
section
variable {w wr w1 : World} {Z U : Nat} {dv sv lv v2 : Value} {se : List Op3} {la : List Int}
theorem COut.ltU (h : COut w wr Z U dv sv lv se la) : U < wr.heap.size := (Array.getElem?_eq_some_iff.1 h.blk).1
theorem COut.ltZ (h : COut w wr Z U dv sv lv se la) : Z < wr.heap.size := (Array.getElem?_eq_some_iff.1 h.res).1
theorem COut.later (h : COut w wr Z U dv sv lv se la) (hb : Below wr.heap.size wr w1) : COut w w1 Z U dv sv lv se la :=
  have ht : Turns (fun _ => False) wr w1 := Turns.of_below hb
  ⟨(hb.block Z h.ltZ).trans h.res, (hb.block U h.ltU).trans h.blk, ht.own h.seen (fun _ _ hf => hf), ht.own h.last (fun _ _ hf => hf), h.old.trans (hb.mono h.old.size), h.newU, h.zu, h.sz, h.lz, h.sl⟩
theorem COut.cells (h : COut w wr Z U dv sv lv se la) : wr.cell? ⟨U, 0, none⟩ = some dv ∧ wr.cell? ⟨U, 1, none⟩ = some sv ∧ wr.cell? ⟨U, 2, none⟩ = some lv := by
  refine ⟨?_, ?_, ?_⟩ <;> rw [cell_of_row wr U _ _ _ _ h.blk] <;> rfl
theorem COut.resCells (h : COut w wr Z U dv sv lv se la) : (wr.cell? ⟨Z, 0, none⟩ = some (.slice none 0 0) ∧ wr.cell? ⟨Z, 1, none⟩ = some (.slice none 0 0) ∧ wr.cell? ⟨Z, 2, none⟩ = some (.slice none 0 0)) ∧ ∀ k, wr.frozen? ⟨Z, k, none⟩ = false := by
  refine ⟨⟨?_, ?_, ?_⟩, fun k => by simp [World.frozen?, h.res]⟩ <;> rw [cell_of_row wr Z _ _ _ _ h.res] <;> rfl
theorem COut.pushS {x : List Op3} (h : COut w wr Z U dv sv lv se la) (ht : Turns (fun k => sv.ownBlock = some k) wr w1) (hv : w1.ownsRow w.heap.size 63 3 v2 (se.length + x.length) (flat se ++ flat x)) (hap : ∀ q, v2.ownBlock = some q → sv.ownBlock = some q ∨ wr.heap.size ≤ q) :
    w1.cell? ⟨U, 1, none⟩ = some sv ∧ w1.frozen? ⟨U, 1, none⟩ = false ∧ COut w (w1.setCell ⟨U, 1, none⟩ v2) Z U dv v2 lv (se ++ x) la := by
  have hZ := h.ltZ
  have hU := h.ltU
  have hb1 : w1.heap[U]? = some (.cells #[dv, sv, lv] 26 (0, 0)) := (ht.block U hU (fun e => (h.sz _ e).2 rfl)).trans h.blk
  have hr1 : w1.heap[Z]? = _ := (ht.block Z hZ (fun e => (h.sz _ e).1 rfl)).trans h.res
  have hv2 : ∀ k, v2.ownBlock = some k → (k ≠ Z ∧ k ≠ U) ∧ ¬ lv.ownBlock = some k := fun k hk => by
    rcases hap k hk with e | e
    · exact ⟨h.sz k e, h.sl k e⟩
    · exact ⟨⟨by omega, by omega⟩, fun e2 => by have := (h.last.lt k e2).2; omega⟩
  have hset : Turns (fun k => k = U) w1 (w1.setCell ⟨U, 1, none⟩ v2) := by
    refine Turns.setCell (Turns.refl _ w1) ?_ _
    exact .inl rfl
  refine ⟨by rw [cell_of_row w1 U _ _ _ _ hb1]; rfl, by simp [World.frozen?, hb1], ⟨?_, ?_, ?_, ?_, ?_, h.newU, h.zu, fun k hk => (hv2 k hk).1, h.lz, fun k hk => (hv2 k hk).2⟩⟩
  · rw [Below.heap_setCell _ _ _ _ h.zu]; exact hr1
  · rw [block_set hb1]; rfl
  · rw [List.length_append, flat_append]
    exact hset.own hv fun k hk e => (hv2 k hk).1.2 e
  · exact hset.own (ht.own h.last fun k hk e => h.sl k e hk) fun k hk e => (h.lz k hk).2 e
  · exact (h.old.trans (ht.below h.old.size fun k hk e => by have := (h.seen.lt k e).1; omega)).setCell h.newU _
theorem COut.pushL {x : Int} (h : COut w wr Z U dv sv lv se la) (ht : Turns (fun k => lv.ownBlock = some k) wr w1) (hv : w1.ownsRow w.heap.size 3 1 v2 (la.length + 1) (la.map (Value.int .i64) ++ [.int .i64 x])) (hap : ∀ q, v2.ownBlock = some q → lv.ownBlock = some q ∨ wr.heap.size ≤ q) :
    w1.cell? ⟨U, 2, none⟩ = some lv ∧ w1.frozen? ⟨U, 2, none⟩ = false ∧ COut w (w1.setCell ⟨U, 2, none⟩ v2) Z U dv sv v2 se (la ++ [x]) := by
  have hZ := h.ltZ
  have hU := h.ltU
  have hb1 : w1.heap[U]? = some (.cells #[dv, sv, lv] 26 (0, 0)) := (ht.block U hU (fun e => (h.lz _ e).2 rfl)).trans h.blk
  have hr1 : w1.heap[Z]? = _ := (ht.block Z hZ (fun e => (h.lz _ e).1 rfl)).trans h.res
  have hv2 : ∀ k, v2.ownBlock = some k → (k ≠ Z ∧ k ≠ U) ∧ ¬ sv.ownBlock = some k := fun k hk => by
    rcases hap k hk with e | e
    · exact ⟨h.lz k e, fun e2 => h.sl k e2 e⟩
    · exact ⟨⟨by omega, by omega⟩, fun e2 => by have := (h.seen.lt k e2).2; omega⟩
  have hset : Turns (fun k => k = U) w1 (w1.setCell ⟨U, 2, none⟩ v2) := by
    refine Turns.setCell (Turns.refl _ w1) ?_ _
    exact .inl rfl
  refine ⟨by rw [cell_of_row w1 U _ _ _ _ hb1]; rfl, by simp [World.frozen?, hb1], ⟨?_, ?_, ?_, ?_, ?_, h.newU, h.zu, h.sz, fun k hk => (hv2 k hk).1, fun k hk e => (hv2 k e).2 hk⟩⟩
  · rw [Below.heap_setCell _ _ _ _ h.zu]; exact hr1
  · rw [block_set hb1]; rfl
  · exact hset.own (ht.own h.seen fun k hk e => h.sl k hk e) fun k hk e => (h.sz k hk).2 e
  · rw [List.length_append, List.map_append]
    exact hset.own hv fun k hk e => (hv2 k hk).1.2 e
  · exact (h.old.trans (ht.below h.old.size fun k hk e => by have := (h.last.lt k e).1; omega)).setCell h.newU _
end
theorem cout_made (w w1 : World) (hb : Below (w.alloc (.cells #[.slice none 0 0, .slice none 0 0, .slice none 0 0] 26)).heap.size (w.alloc (.cells #[.slice none 0 0, .slice none 0 0, .slice none 0 0] 26)) w1) (dv : Value) : COut w1 (w1.alloc (.cells #[dv, .slice none 0 0, .slice none 0 0] 26)) w.heap.size w1.heap.size dv (.slice none 0 0) (.slice none 0 0) [] [] := by
  have hs := hb.size
  rw [World.size_alloc] at hs
  refine ⟨?_, World.alloc_heap_new w1 _, World.ownsRow_nil _ _ _ _, World.ownsRow_nil _ _ _ _, (Below.refl _ w1).alloc (Nat.le_refl _) _, Nat.le_refl _, by omega, fun k hk => by simp [Value.ownBlock] at hk, fun k hk => by simp [Value.ownBlock] at hk, fun k hk => by simp [Value.ownBlock] at hk⟩
  exact ((Below.heap_alloc _ _ _ (by omega)).trans (hb.block w.heap.size (by simp))).trans (World.alloc_heap_new w _)
theorem takeQ {ds : List Int} {k : Nat} (h : k < ds.length) : ds.take (k + 1) = ds.take k ++ [ds.getD k 0] := by rw [List.take_succ_eq_append_getElem h]; simp [List.getD, List.getElem?_eq_getElem h]
theorem reads_len {q : Crs} {m : Nat} (h : ∀ t, (q.read t).length ≤ m) : ∀ ds : List Int, (ds.flatMap q.read).length ≤ ds.length * m := by
  intro ds
  induction ds with
  | nil => simp
  | cons t r ih =>
    rw [List.flatMap_cons, List.length_append, List.length_cons, Nat.succ_mul]
    have := h t
    omega
theorem not_int {w5 : World} {Z off : Nat} {n : Int} (hz : w5.heap[Z]? = some (.cells #[.slice none 0 0, .slice none 0 0, .slice none 0 0] 26 (0, 0))) : ¬ w5.cell? ⟨Z, off, none⟩ = some (.int .i64 n) := fun h => by
  rw [cell_of_row w5 Z _ _ _ _ hz] at h
  rcases off with _ | _ | _ | off
  · simp at h
  · simp at h
  · simp at h
  · simp at h
/-- What is told is laid where it is told. -/
theorem fin5 {w w5 : World} {Z : Nat} {u1 u2 u3 : Value} {ds la : List Int} {se : List Op3} (hz : w5.heap[Z]? = some (.cells #[.slice none 0 0, .slice none 0 0, .slice none 0 0] 26 (0, 0))) (hZ : w.heap.size ≤ Z) (hb : Below w.heap.size w w5) (h1 : IsInts w5 u1 ds) (h2 : IsOps w5 u2 se) (h3 : IsInts w5 u3 la) :
    (((w5.setCell ⟨Z, 0, none⟩ u1).setCell ⟨Z, 1, none⟩ u2).setCell ⟨Z, 2, none⟩ u3).heap[Z]? = some (.cells #[u1, u2, u3] 26 (0, 0)) ∧ IsInts (((w5.setCell ⟨Z, 0, none⟩ u1).setCell ⟨Z, 1, none⟩ u2).setCell ⟨Z, 2, none⟩ u3) u1 ds ∧ IsOps (((w5.setCell ⟨Z, 0, none⟩ u1).setCell ⟨Z, 1, none⟩ u2).setCell ⟨Z, 2, none⟩ u3) u2 se ∧ IsInts (((w5.setCell ⟨Z, 0, none⟩ u1).setCell ⟨Z, 1, none⟩ u2).setCell ⟨Z, 2, none⟩ u3) u3 la ∧ Below w.heap.size w (((w5.setCell ⟨Z, 0, none⟩ u1).setCell ⟨Z, 1, none⟩ u2).setCell ⟨Z, 2, none⟩ u3) := by
  have ht : Turns (fun j => j = Z) w5 (((w5.setCell ⟨Z, 0, none⟩ u1).setCell ⟨Z, 1, none⟩ u2).setCell ⟨Z, 2, none⟩ u3) := by
    refine Turns.setCell (Turns.setCell (Turns.setCell (Turns.refl _ w5) ?_ _) ?_ _) ?_ _ <;> exact .inl rfl
  have hbl : (((w5.setCell ⟨Z, 0, none⟩ u1).setCell ⟨Z, 1, none⟩ u2).setCell ⟨Z, 2, none⟩ u3).heap[Z]? = some (.cells #[u1, u2, u3] 26 (0, 0)) := by rw [block_set (block_set (block_set hz))]; rfl
  obtain ⟨X, hX⟩ : ∃ X, X = ((w5.setCell ⟨Z, 0, none⟩ u1).setCell ⟨Z, 1, none⟩ u2).setCell ⟨Z, 2, none⟩ u3 := ⟨_, rfl⟩
  rw [← hX] at ht hbl ⊢
  clear hX
  have key : ∀ b off (n : Int), w5.cell? ⟨b, off, none⟩ = some (.int .i64 n) → X.cell? ⟨b, off, none⟩ = some (.int .i64 n) := fun b off n hc => by
    have hne : b ≠ Z := fun e => by subst e; exact not_int hz hc
    exact (ht.cell (p := ⟨b, off, none⟩) (World.block_lt_of_cell? w5 _ hc) hne).trans hc
  have ints : ∀ {u : Value} {l : List Int}, IsInts w5 u l → IsInts X u l := fun h => by
    obtain ⟨ad, b, off, cap, hv, ha, hn, hbB, hc⟩ := h
    refine ⟨ad, b, off, cap, hv, ha, hn, ?_, fun i hi => key _ _ _ (hc i hi)⟩
    rcases hbB with h | h
    · exact .inl (Nat.lt_of_lt_of_le h ht.size)
    · exact .inr h
  have ops : IsOps X u2 se := by
    obtain ⟨ad, b, off, cap, hv, ha, hn, hbB, hc⟩ := h2
    refine ⟨ad, b, off, cap, hv, ha, hn, ?_, fun i hi => ?_⟩
    · rcases hbB with h | h
      · exact .inl (Nat.lt_of_lt_of_le h ht.size)
      · exact .inr h
    · obtain ⟨g1, g2, g3⟩ := hc i hi
      exact ⟨key _ _ _ g1, key _ _ _ g2, key _ _ _ g3⟩
  exact ⟨hbl, ints h1, ops, ints h3, hb.trans (ht.below hb.size fun j hj e => by omega)⟩
/-- Who wrote each item last, of these, as they stand. -/
def lastsD (q : Crs) (ds : List Int) (n : Nat) : List Int := (List.range n).map fun i : Nat => lastQ q.wrote ds ((i : Int) + 1)
theorem lastsD_succ (q : Crs) (ds : List Int) (n : Nat) : lastsD q ds (n + 1) = lastsD q ds n ++ [lastQ q.wrote ds ((n : Int) + 1)] := by unfold lastsD; rw [List.range_succ, List.map_append]; rfl
theorem lastsD_len (q : Crs) (ds : List Int) (n : Nat) : (lastsD q ds n).length = n := by simp [lastsD]
def lastsQ (q : Crs) (n : Nat) : List Int := lastsD q q.done n
theorem call_lastOf : RuleFn 54 := fun _ _ => by kernel_rfl
set_option maxHeartbeats 16000000 in
set_option maxRecDepth 100000 in
theorem outcome_crs {w0 w : World} {R : Nat} {S F : Value} {q : Crs} {c : CLay} (h : CrsAt w0 w R S F q c) (hq : CrsOk 100 q) (ds : List Int) (v : Value) (hI : IsInts w v ds) (h16 : ∀ t ∈ ds, 1 ≤ t ∧ t ≤ 6) (hl : ds.length ≤ 100) :
    Calls Tryd.prog 33 #[.pointer (some ⟨R, 0, none⟩), v] w fun e w' => ∃ a1 a2 a3, e = .returned (.agg #[a1, a2, a3]) ∧ IsInts w' a1 ds ∧ IsOps w' a2 (ds.flatMap q.read) ∧ IsInts w' a3 (lastsD q ds 6) ∧ Room a1 ∧ Below w.heap.size w w' := by
  have HL := hid_q h
  have HQ := hid_q hq
  have hqm : CrsOk 1000 q := ⟨by have := hq.lenD; omega, fun t => by have := hq.lenR t; omega, fun t => by have := hq.lenW t; omega, hq.six, hq.cnt, hq.begs⟩
  have HQM := hid_q hqm
  have HSIX := hid_q h16
  have HIV := hid_q hI
  obtain ⟨ad0, c0, e0⟩ : ∃ ad c, v = .slice ad ds.length c := by obtain ⟨ad, _, _, c, e, _⟩ := hI; exact ⟨ad, c, e⟩
  rw [e0] at hI HIV ⊢
  have hRW := h.lt
  have HDN : Hid (∀ W, Below w.heap.size w W → Calls Tryd.prog 49 #[.slice ad0 ds.length c0] W fun e w' => ∃ v', e = .returned v' ∧ w'.ownsRow W.heap.size 3 1 v' ds.length (ds.map (Value.int .i64)) ∧ Below W.heap.size W w') := fun W hW => clone_ints ds _ W (hI.below hW (Nat.le_refl _)) (by omega)
  obtain ⟨N, hN⟩ : ∃ N, ds.length = N := ⟨_, rfl⟩
  have HN := hid_q hN
  rw [hN] at hI HIV HDN ⊢
  have HC : Hid (∀ W, Below w.heap.size w W → ∀ k, k < N → ∃ b off, ad0 = some ⟨b, off, none⟩ ∧ b < W.heap.size ∧ W.cell? ⟨b, off + k, none⟩ = some (.int .i64 (ds.getD k 0))) := fun W hW k hk => by
    obtain ⟨ad, b, off, cap, e1, ha, -, hbB, hc⟩ := hI
    injection e1 with e1 e2 e3
    have hb : b < w.heap.size := by
      rcases hbB with h | h
      · exact h
      · have : ds.length = 0 := by rw [h]; rfl
        omega
    exact ⟨b, off, by rw [e1]; exact ha (by omega), Nat.lt_of_lt_of_le hb hW.size, (hW.cell (p := ⟨b, off + k, none⟩) hb).trans (hc k (by omega))⟩
  obtain ⟨i0, hi, hz0, hs0, hy0⟩ := info_parts infoSeenQ
  have HI : Hid (Tryd.prog.info? 63 = some i0 ∧ i0.zero = some (.agg #[.int .i64 0, .int .i64 0, .int .i64 0]) ∧ i0.size = 3 ∧ i0.bytes = 24) := ⟨hi, hz0, hs0, hy0⟩
  obtain ⟨j0, hj, hjz0, hjs0, hjy0⟩ := info_parts infoInt
  have HJ : Hid (Tryd.prog.info? 3 = some j0 ∧ j0.zero = some (.int .i64 0) ∧ j0.size = 1 ∧ j0.bytes = 8) := ⟨hj, hjz0, hjs0, hjy0⟩
  have hN100 : N ≤ 100 := by omega
  clear h hq hqm e0 hI hi hz0 hs0 hy0 hj hjz0 hjs0 hjy0 h16 hl hN
  go_enter Tryd.func33, Tryd.ntmps33
  go_wp2_with fail
  obtain ⟨WZ, hWZ⟩ : ∃ W, W = w.alloc (.cells #[.slice none 0 0, .slice none 0 0, .slice none 0 0] 26) := ⟨_, rfl⟩
  rw [← hWZ]
  have hbZ : Below w.heap.size w WZ := by rw [hWZ]; exact (Below.refl _ w).alloc (Nat.le_refl _) _
  refine (HDN.out WZ hbZ).mono ?_
  rintro e w1 ⟨v1, rfl, ho1, hb1⟩
  obtain ⟨ad1, c1, rfl, -⟩ := own_slice3 ho1
  have HII := hid_q (isInts_own ho1 HN.out)
  have hroom : Room (.slice ad1 N c1) := by
    obtain ⟨_, ⟨hv, _⟩ | ⟨g, cap, cur, hv, _, _, hn, _⟩⟩ := ho1
    · exact ⟨none, 0, 0, hv, Nat.le_refl _⟩
    · exact ⟨_, _, _, hv, hn⟩
  have HRM := hid_q hroom
  have HB1 : Hid (Below w.heap.size w w1) := hbZ.trans (hb1.mono hbZ.size)
  have hbm := hb1
  rw [hWZ] at hbm
  have HM := hid_q (cout_made w w1 hbm (.slice ad1 N c1))
  clear ho1 hroom hb1 hbm hWZ hbZ
  obtain ⟨Z, hZ⟩ : ∃ Z, Z = w.heap.size := ⟨_, rfl⟩
  rw [← hZ] at HM ⊢
  have HZ : Hid (w.heap.size ≤ Z) := by show w.heap.size ≤ Z; omega
  clear hZ
  go_upto_region 2 with (fail)
  obtain ⟨W0, hW0⟩ : ∃ W, W = w1.alloc (.cells #[.slice ad1 N c1, .slice none 0 0, .slice none 0 0] 26) := ⟨_, rfl⟩
  rw [← hW0] at HM ⊢
  obtain ⟨U, hU⟩ : ∃ U, U = w1.heap.size := ⟨_, rfl⟩
  rw [← hU] at HM ⊢
  clear hW0 hU
  go_wp2_with fail
  go_loopw [14] (fun v14 wr => ∃ (k : Nat) (sv : Value), k ≤ N ∧ v14 = .int .i64 k ∧ COut w1 wr Z U (.slice ad1 N c1) sv (.slice none 0 0) ((ds.take k).flatMap q.read) []) (fun v14 _ => N - (intOf v14).toNat)
  case atStart => exact ⟨0, _, Nat.zero_le _, rfl, by rw [List.take_zero]; exact HM.out⟩
  case round =>
    obtain ⟨k, sv, hk, rfl, hou⟩ := hrel
    have HOU := hid_q hou
    have HOW : Hid (Below w.heap.size w wr) := HB1.out.trans (hou.old.mono HB1.out.size)
    clear hou HM
    by_cases hlt : k < N
    · have hlt' : (k : Int) < (N : Int) := by omega
      obtain ⟨b, off, rfl, hbw, hcb⟩ := HC.out wr HOW.out k hlt
      obtain ⟨t, ht⟩ : ∃ t, ds.getD k 0 = t := ⟨_, rfl⟩
      rw [ht] at hcb
      have hmem : t ∈ ds := by rw [← ht]; have := HN.out; simp [List.getD, List.getElem?_eq_getElem (show k < ds.length by omega)]
      have h6 := HSIX.out t hmem
      have HNX : Hid ((ds.take (k + 1)).flatMap q.read = (ds.take k).flatMap q.read ++ q.read t) := by
        show _ = _
        rw [takeQ (by have := HN.out; omega), ht, List.flatMap_append]
        simp
      have hw := HL.out.below HOW.out
      obtain ⟨m, hm⟩ := hw.rd
      obtain ⟨ads, cps, hrv, hrops⟩ := hw.reads h6.1 h6.2
      have k4 := hw.c4
      have hRr := hw.lt
      obtain ⟨nt, hnt⟩ : ∃ n, (q.read t).length = n := ⟨_, rfl⟩
      have hnt100 : nt ≤ 100 := by rw [← hnt]; exact HQ.out.lenR t
      have hbv : (c.hr t).getD (.slice none 0 0) = .slice ads (q.read t).length cps := hrv
      rw [hnt] at hbv hrops
      have hlk0 : (Instr.lookup 79 (.map (some c.D)) (.int .i64 t) false).run Tryd.prog wr.drew = .ok (.slice ads nt cps) wr.drew := by have := (MapIs.drew hm).look false Tryd.underlying79 (zero_seensQ _) (wf_deal h6.1 h6.2); rw [hbv] at this; exact this
      have HSR : Hid (SrcAt wr (.slice ads nt cps) nt 3 (flat (q.read t))) := by show SrcAt _ _ _ _ _; rw [← hnt] at hrops ⊢; exact srcAt_ops hrops
      obtain ⟨adS, cS, eS, -⟩ := own_slice3 HOU.out.seen
      obtain ⟨ns, hns⟩ : ∃ n, ((ds.take k).flatMap q.read).length = n := ⟨_, rfl⟩
      have hns1 : ns ≤ 10000 := by
        rw [← hns]
        have h1 := reads_len HQ.out.lenR (ds.take k)
        have h2 : (ds.take k).length ≤ 100 := by rw [List.length_take]; omega
        have h3 : (ds.take k).length * 100 ≤ 100 * 100 := Nat.mul_le_mul_right _ h2
        omega
      rw [hns] at eS
      subst eS
      obtain ⟨u0, u1, u2⟩ := HOU.out.cells
      have hUw := HOU.out.ltU
      have HV : Hid (wr.ownsRow w1.heap.size 63 3 (.slice adS ns cS) ns (flat ((ds.take k).flatMap q.read))) := by show World.ownsRow _ _ _ _ _ _ _; have := HOU.out.seen; rw [hns] at this; exact this
      have HSZ1 : Hid (w1.heap.size ≤ wr.heap.size) := HOU.out.old.size
      have HPT : Hid (∀ v2 w2, w2.ownsRow w1.heap.size 63 3 v2 (ns + nt) (flat ((ds.take k).flatMap q.read) ++ flat (q.read t)) → wr.drew.grownBy w2 (Value.slice adS ns cS).ownBlock → (∀ g, v2.ownBlock = some g → (Value.slice adS ns cS).ownBlock = some g ∨ wr.drew.heap.size ≤ g) → w2.cell? ⟨U, 1, none⟩ = some (.slice adS ns cS) ∧ w2.frozen? ⟨U, 1, none⟩ = false ∧ COut w1 (w2.setCell ⟨U, 1, none⟩ v2) Z U (.slice ad1 N c1) v2 (.slice none 0 0) ((ds.take (k + 1)).flatMap q.read) []) := fun v2 w2 g1 g2 g3 => by
        rw [HNX.out]
        exact HOU.out.pushS ((Turns.refl _ wr).drew.grown g2 fun j hj => .inl hj) (by rw [hns, hnt]; exact g1) g3
      clear hw hm hrv hrops hbv hnt hns ht hmem u0 u2
      go_wp2_with fail
      go_region_law (refine step_append_src rfl (.tmp 19) (.tmp 25) 24 rfl w1.heap.size 63 i0 (.agg #[.int .i64 0, .int .i64 0, .int .i64 0]) 3 24 Tryd.underlying24 HI.out.1 HI.out.2.1 HI.out.2.2.1 HI.out.2.2.2 rfl (by decide) (.slice adS ns cS) ns (flat ((ds.take k).flatMap q.read)) (by simp [Act.eval]) HV.out (.slice ads nt cps) nt (flat (q.read t)) (by simp [Act.eval]) HSR.out (flat_one _) (by unfold maxLen; omega) (by omega) (by have := HSZ1.out; simp; omega) ?_; intro v2 w2 hown2 hgr2 hap2; obtain ⟨g0, g1, g2⟩ := HPT.out v2 w2 hown2 hgr2 hap2; clear hap2 hgr2; obtain ⟨ad7, c7, rfl, -⟩ := own_slice3 hown2; have HK3 := hid_q g2; clear g2 hown2)
      all_goals
        go_wp2_with fail
        go_roundw
        case rel => exact ⟨k + 1, _, by omega, by go_num, HK3.out⟩
        case measure => simp [intOf]; omega
    · have hlt' : ¬ (k : Int) < (N : Int) := by omega
      obtain rfl : N = k := by omega
      have hse : (ds.take N).flatMap q.read = ds.flatMap q.read := by rw [List.take_of_length_le (by have := HN.out; omega)]
      rw [hse] at HOU
      clear hse hk hlt hlt'
      obtain ⟨WA, hWA⟩ : ∃ W : World, W = wr := ⟨_, rfl⟩
      subst hWA
      go_wp2_with fail
      go_loopw [8] (fun v8 wr => ∃ (k : Nat) (lv : Value), k ≤ 6 ∧ v8 = .int .i64 ((k : Int) + 1) ∧ COut w1 wr Z U (.slice ad1 N c1) sv lv (ds.flatMap q.read) (lastsD q ds k)) (fun v8 _ => 7 - (intOf v8).toNat)
      case atStart => exact ⟨0, _, Nat.zero_le _, rfl, HOU.out⟩
      case round =>
        obtain ⟨k, lv, hk, rfl, hou⟩ := hrel
        have HOV := hid_q hou
        have HOW2 : Hid (Below w.heap.size w wr) := HB1.out.trans (hou.old.mono HB1.out.size)
        clear hou HOU
        obtain ⟨adS, cS, eS, -⟩ := own_slice3 HOV.out.seen
        obtain ⟨ns, hns⟩ : ∃ n, (ds.flatMap q.read).length = n := ⟨_, rfl⟩
        rw [hns] at eS
        subst eS
        have HNS := hid_q hns
        clear hns
        by_cases hlt : k < 6
        · have hk7 : (k : Int) + 1 ≤ 6 := by omega
          have HNX := hid_q (lastsD_succ q ds k)
          obtain ⟨y, hy⟩ : ∃ y, lastQ q.wrote ds ((k : Int) + 1) = y := ⟨_, rfl⟩
          have HLS : Hid (∀ W, Below wr.heap.size wr W → Calls Tryd.prog 54 #[.pointer (some ⟨R, 0, none⟩), .slice ad0 N c0, .int .i64 ((k : Int) + 1)] W fun e w' => e = .returned (.int .i64 y) ∧ Below wr.heap.size wr w') := fun W hW => by
            have hw := (HL.out.below HOW2.out).below hW
            have := lastOf_crs hw HQM.out ds (.slice ad0 N c0) ((HIV.out.below HOW2.out (Nat.le_refl _)).below hW (Nat.le_refl _)) HSIX.out (by have := HN.out; omega) ((k : Int) + 1)
            rw [hy] at this
            exact this.mono fun e w' ⟨h2, h3⟩ => ⟨h2, hW.trans (h3.mono hW.size)⟩
          rw [hy] at HNX
          obtain ⟨adL, cL, eL, -⟩ := own_slice3 HOV.out.last
          rw [lastsD_len] at eL
          subst eL
          have HV : Hid (∀ W, Below wr.heap.size wr W → W.ownsRow w1.heap.size 3 1 (.slice adL k cL) k ((lastsD q ds k).map (Value.int .i64))) := fun W hW => by have := (HOV.out.later hW).last; rw [lastsD_len] at this; exact this
          have HSZ1 : Hid (∀ W, Below wr.heap.size wr W → w1.heap.size ≤ W.heap.size) := fun W hW => Nat.le_trans HOV.out.old.size hW.size
          obtain ⟨u0, u1, u2⟩ := HOV.out.cells
          have HU2 : Hid (∀ W, Below wr.heap.size wr W → W.cell? ⟨U, 2, none⟩ = some (.slice adL k cL)) := fun W hW => (HOV.out.later hW).cells.2.2
          have hUw := HOV.out.ltU
          have HPT : Hid (∀ W, Below wr.heap.size wr W → ∀ v2 w2 (ob : Obj), w2.ownsRow w1.heap.size 3 1 v2 (k + 1) ((lastsD q ds k).map (Value.int .i64) ++ [.int .i64 y]) → (W.alloc ob).grownBy w2 (Value.slice adL k cL).ownBlock → (∀ g, v2.ownBlock = some g → (Value.slice adL k cL).ownBlock = some g ∨ (W.alloc ob).heap.size ≤ g) → w2.cell? ⟨U, 2, none⟩ = some (.slice adL k cL) ∧ w2.frozen? ⟨U, 2, none⟩ = false ∧ COut w1 (w2.setCell ⟨U, 2, none⟩ v2) Z U (.slice ad1 N c1) (.slice adS ns cS) v2 (ds.flatMap q.read) (lastsD q ds (k + 1))) := fun W hW v2 w2 ob g1 g2 g3 => by
            rw [HNX.out]
            exact (HOV.out.later hW).pushL (((Turns.refl _ W).alloc ob).grown g2 fun j hj => .inl hj) (by rw [lastsD_len]; exact g1) fun g hg => by
              rcases g3 g hg with h4 | h4
              · exact .inl h4
              · exact .inr (by simp at h4; omega)
          have HENT := hid_q call_lastOf
          clear hy u0 u1
          go_wp2_with fail
          go_region_law (first | (refine step_callQ rfl 54 _ _ rfl #[.pointer (some ⟨R, 0, none⟩), .slice ad0 N c0, .int .i64 ((k : Int) + 1)] (by simp [Act.eval, Act.put]) HENT.out (.int .i64 y) (fun w' => Below wr.heap.size wr w') (HLS.out wr.drew (Below.refl _ wr).drew) ?_; intro W1 hW1; have v2c := HU2.out W1 hW1; have v2d : ∀ ob : Obj, (W1.alloc ob).cell? ⟨U, 2, none⟩ = some (.slice adL k cL) := fun ob => HU2.out (W1.alloc ob) (hW1.alloc hW1.size ob)) | (refine step_append_apart rfl (.tmp 34) (.tmp 39) 23 rfl w1.heap.size 3 j0 (.int .i64 0) 1 8 Tryd.underlying23 HJ.out.1 HJ.out.2.1 HJ.out.2.2.1 HJ.out.2.2.2 rfl (by decide) (.slice adL k cL) k ((lastsD q ds k).map (Value.int .i64)) (by simp [Act.eval]) ((HV.out W1 hW1).alloc _) ⟨W1.heap.size, 0, none⟩ 1 1 [.int .i64 y] (by simp [Act.eval]) rfl (int_newQ W1 y _) (int_oneQ y) (by unfold maxLen; omega) (by omega) (by have := HSZ1.out W1 hW1; simp; omega) ?_; intro v2 w2 hown2 hgr2 hap2; obtain ⟨g0, g1, g2⟩ := HPT.out W1 hW1 v2 w2 _ hown2 hgr2 hap2; clear hap2 hgr2; obtain ⟨ad7, c7, rfl, -⟩ := own_slice3 hown2; have HK3 := hid_q g2; clear g2 hown2))
          all_goals
            go_wp2_with fail
            go_roundw
            case rel => exact ⟨k + 1, _, by omega, by go_num, HK3.out⟩
            case measure => simp [intOf]; omega
        · obtain rfl : k = 6 := by omega
          obtain ⟨u0, u1, u2⟩ := HOV.out.cells
          obtain ⟨⟨z0, z1, z2⟩, y⟩ := HOV.out.resCells
          obtain ⟨adL, cL, eL, -⟩ := own_slice3 HOV.out.last
          rw [lastsD_len] at eL
          subst eL
          have y0 := y 0
          have y1 := y 1
          have y2 := y 2
          obtain ⟨HRE0, HFI0⟩ := fin5 HOV.out.res HZ.out HOW2.out (HII.out.below HOV.out.old (Nat.le_refl _)) (isOps_row HOV.out.seen rfl) (isInts_own HOV.out.last rfl)
          have HRE := hid_q HRE0
          have HFI := hid_q HFI0
          clear HRE0 HFI0 y hk hlt
          go_wp2_with fail
          refine bodyPost_ret (v := .agg #[.slice ad1 N c1, .slice adS ns cS, .slice adL 6 cL]) (results_cell_row Tryd.results33 _ _ Z 26 #[.slice ad1 N c1, .slice adS ns cS, .slice adL 6 cL] (0, 0) _ rfl HRE.out Tryd.underlying26 rfl outcome_infoQ) rfl ⟨_, _, _, rfl, HFI.out.1, HFI.out.2.1, HFI.out.2.2.1, HRM.out, HFI.out.2.2.2⟩
end Go.Proofs.YtccjognnehoodafDoor

namespace Go.Proofs.YtccjognnehoodafDoor
open Go.RowKit

set_option maxHeartbeats 4000000 in
set_option maxRecDepth 100000 in
theorem newCourse_crs (S F : Value) (hS : ∃ N, S = .func (.func N) #[] #[]) (hF : ∃ N B C, F = .func (.func N) B C) (w0 w : World) (hb : Below w0.heap.size w0 w) :
    Calls Tryd.prog 45 #[.agg #[S, F]] w fun e w' => ∃ R, e = .returned (.pointer (some ⟨R, 0, none⟩)) ∧ ∃ c, CrsAt w0 w' R S F crs0 c := by
  obtain ⟨N1, rfl⟩ := hS
  obtain ⟨N2, B2, C2, rfl⟩ := hF
  have hmm := @run_makeMap Tryd.prog
  have HM := hid_q (crs_made w0 (w.alloc (.cells #[.func (.func N1) #[] #[], .func (.func N2) B2 C2] 51)) (hb.alloc hb.size _) (.func (.func N1) #[] #[]) (.func (.func N2) B2 C2))
  simp only [World.size_alloc] at HM
  clear hb
  go_enter Tryd.func45, Tryd.ntmps45
  go_wp2_with fail
  go_ret
  exact ⟨_, rfl, _, HM.out⟩
theorem isOps_nilQ (w : World) : IsOps w (.slice none 0 0) [] := ⟨none, 0, 0, 0, rfl, fun h => absurd h (by simp), fun _ => ⟨rfl, rfl⟩, .inr rfl, fun i hi => by simp at hi⟩
theorem results_twoQ {P : Program} {fn : Func} {p q : Tmp} {ty : TypeId} (h : fn.results = #[.cell p ty, .tmp q]) (tmps : Array Value) (w : World) (g : Nat) (t : TypeId) (cs : Array Value) (fr : Nat × Nat) (d : TypeDesc) (v : Value)
    (hp : tmps.getD p undef = .pointer (some ⟨g, 0, none⟩)) (hq : tmps.getD q undef = v) (hg : w.heap[g]? = some (.cells cs t fr))
    (hu : P.underlying ty = some d) (hd : (match d with | .struct _ | .array _ _ => true | _ => false) = true) (hi : (P.info? ty).map (·.size) = some cs.size) :
    (results fn tmps).run P w = .ok (.tuple #[.agg cs, v]) w := by
  have hp' : tmps[p]?.getD undef = .pointer (some ⟨g, 0, none⟩) := by simpa using hp
  have hq' : tmps[q]?.getD undef = v := by simpa using hq
  simp [results, h, hp', hq', asAddr, run_loadVar_row w g t ty cs fr d hg hu hd hi]
/-- What comes of one op. -/
theorem come_any {K : World → Prop} {NS NF : Nat} {BF CF : Array Value} {seesF : Crs → Int → Int → Int} {fallF : Crs → Int → Bool} (cS : RuleFn NS) (cF : RuleFn NF) (hS : SeesC NS seesF) (hF : FallK K NF BF CF fallF) {w0 w : World} (hK0 : K w0) {R : Nat} {q : Crs} {c : CLay} (h : CrsAt w0 w R (.func (.func NS) #[] #[]) (.func (.func NF) BF CF) q c) (hq : CrsOk 999 q) (o : Op3) (h1 : 1 ≤ o.1) (h6 : o.1 ≤ 6) :
    Calls Tryd.prog 46 #[.pointer (some ⟨R, 0, none⟩), .agg #[.int .i64 o.1, .int .i64 o.2.1, .int .i64 o.2.2]] w fun e w' => e = .returned (.tuple #[]) ∧ CameTo w0 w' R (.func (.func NS) #[] #[]) (.func (.func NF) BF CF) (stepQ seesF fallF q o) := by
  obtain ⟨t, a, i⟩ := o
  simp only at h1 h6
  unfold stepQ
  simp only
  by_cases e1 : a = 1
  · subst e1
    rw [if_pos rfl]
    exact come_read cS hS h hq i h1 h6
  · rw [if_neg e1]
    by_cases e2 : a = 2
    · subst e2
      rw [if_pos rfl]
      exact come_write h hq i h1 h6
    · rw [if_neg e2]
      by_cases e3 : a = 3
      · subst e3
        rw [if_pos rfl]
        exact come_commit cF hF hK0 h hq i h1 h6
      · rw [if_neg e3]
        exact come_abort h a i h1 h6 e1 e2 e3
theorem CrsOk.up {m n : Nat} {q : Crs} (h : CrsOk m q) (hm : m ≤ n) : CrsOk n q := ⟨Nat.le_trans h.lenD hm, fun t => Nat.le_trans (h.lenR t) hm, fun t => Nat.le_trans (h.lenW t) hm, h.six, h.cnt, h.begs⟩
set_option maxHeartbeats 16000000 in
set_option maxRecDepth 100000 in
theorem whole_ok {K : World → Prop} {NS NF : Nat} {BF CF : Array Value} {seesF : Crs → Int → Int → Int} {fallF : Crs → Int → Bool} (cS : RuleFn NS) (cF : RuleFn NF) (hS : SeesC NS seesF) (hF : FallK K NF BF CF fallF) (l : List Op3) (v : Value) (w : World) (hKw : ∀ W, Below w.heap.size w W → K W) (hI : IsOps w v l) (hc : (chk l).2 = 0) :
    Calls Tryd.prog 26 #[v, .agg #[.func (.func NS) #[] #[], .func (.func NF) BF CF]] w fun e w' => ∃ W0 R, e = .returned (.tuple #[.pointer (some ⟨R, 0, none⟩), .nilIface]) ∧ Below w.heap.size w W0 ∧ CameTo W0 w' R (.func (.func NS) #[] #[]) (.func (.func NF) BF CF) (runQ seesF fallF l l.length) := by
  obtain ⟨W0, hW0⟩ : ∃ W, W = w.alloc (.cells #[.func (.func NS) #[] #[], .func (.func NF) BF CF] 51) := ⟨_, rfl⟩
  have hb0 : Below w.heap.size w W0 := by rw [hW0]; exact (Below.refl _ w).alloc (Nat.le_refl _) _
  have HB0 := hid_q hb0
  have HKK := hid_q (hKw W0 hb0)
  have HCK := hid_q (check_ok l v W0 (hI.below hb0 (Nat.le_refl _)) hc)
  obtain ⟨hl40, hop, hcalm⟩ := (chk_iff l).1 hc
  have HOP : Hid (∀ o ∈ l, isOpB o = true) := hop
  have HOK : Hid (∀ k, k ≤ l.length → CrsOk 40 (runQ seesF fallF l k)) := fun k hk => (crsOk_all seesF fallF hop k hk).up (by omega)
  obtain ⟨ad, b, off, cap, rfl, ha, -, hbB, hops⟩ := hI
  have HE : Hid (∀ W, Below w.heap.size w W → ∀ k, k < l.length → ad = some ⟨b, off, none⟩ ∧ b < w.heap.size ∧ W.cell? ⟨b, off + k * 3, none⟩ = some (.int .i64 (opAt l k).1) ∧ W.cell? ⟨b, off + k * 3 + 1, none⟩ = some (.int .i64 (opAt l k).2.1) ∧ W.cell? ⟨b, off + k * 3 + 2, none⟩ = some (.int .i64 (opAt l k).2.2)) := fun W hW k hk => by
    refine ⟨ha (by omega), ?_, (hops.below hW hbB) k hk⟩
    rcases hbB with h | h
    · exact h
    · subst h; simp at hk
  have HCA : Hid (∀ (w w' : World) (R : Nat) (q : Crs) (c : CLay) (o : Op3), K w → CrsAt w w' R (.func (.func NS) #[] #[]) (.func (.func NF) BF CF) q c → CrsOk 40 q → 1 ≤ o.1 → o.1 ≤ 6 → Calls Tryd.prog 46 #[.pointer (some ⟨R, 0, none⟩), .agg #[.int .i64 o.1, .int .i64 o.2.1, .int .i64 o.2.2]] w' fun e w2 => e = .returned (.tuple #[]) ∧ CameTo w w2 R (.func (.func NS) #[] #[]) (.func (.func NF) BF CF) (stepQ seesF fallF q o)) := fun w w' R q c o hk h hq h1 h6 => come_any cS cF hS hF hk h (hq.up (by omega)) o h1 h6
  have kr : W0.heap[w.heap.size]? = some (.cells #[.func (.func NS) #[] #[], .func (.func NF) BF CF] 51 (0, 0)) := by rw [hW0]; exact World.alloc_heap_new w _
  have hsz : W0.heap.size = w.heap.size + 1 := by rw [hW0]; simp
  have HKR := hid_q kr
  have HSZ := hid_q hsz
  clear hc hop hcalm ha hbB hops hb0 kr hsz hS hF cS cF hKw
  go_enter Tryd.func26, Tryd.ntmps26
  go_upto_region 1 with (fail)
  rw [← hW0]
  obtain ⟨PR, hPR⟩ : ∃ P, P = w.heap.size := ⟨_, rfl⟩
  rw [← hPR] at HKR ⊢
  have HZZ : Hid (PR < W0.heap.size) := by have := HSZ.out; show PR < _; omega
  clear hW0 hPR
  go_wp2_with fail
  refine HCK.out.mono ?_
  rintro e w1 ⟨rfl, hb1⟩
  have HB1 := hid_q hb1
  have r0 : w1.cell? ⟨PR, 0, none⟩ = some (.func (.func NS) #[] #[]) := by rw [cell_of_row w1 PR _ _ _ _ ((hb1.block PR HZZ.out).trans HKR.out)]; rfl
  have r1 : w1.cell? ⟨PR, 1, none⟩ = some (.func (.func NF) BF CF) := by rw [cell_of_row w1 PR _ _ _ _ ((hb1.block PR HZZ.out).trans HKR.out)]; rfl
  clear hb1
  go_wp2_with fail
  refine (newCourse_crs (.func (.func NS) #[] #[]) (.func (.func NF) BF CF) ⟨_, rfl⟩ ⟨_, _, _, rfl⟩ W0 w1 HB1.out).mono ?_
  rintro e w2 ⟨R, rfl, c2, ho2⟩
  have HO2 := hid_q ho2
  clear ho2 r0 r1
  go_wp2_with fail
  go_loopw [23] (fun v23 wr => ∃ k : Nat, k ≤ l.length ∧ v23 = .int .i64 k ∧ CameTo W0 wr R (.func (.func NS) #[] #[]) (.func (.func NF) BF CF) (runQ seesF fallF l k)) (fun v23 _ => l.length - (intOf v23).toNat)
  case atStart => exact ⟨0, Nat.zero_le _, rfl, c2, HO2.out⟩
  case round =>
    obtain ⟨k, hk, rfl, ck, hok⟩ := hrel
    have HK := hid_q hok
    clear hok HO2
    by_cases hlt : k < l.length
    · have hlt' : (k : Int) < (l.length : Int) := by omega
      have HBW : Hid (Below w.heap.size w wr) := HB0.out.trans (HK.out.old.mono HB0.out.size)
      obtain ⟨rfl, hbw, e0, e1, e2⟩ := HE.out wr HBW.out k hlt
      obtain ⟨⟨t, a, i⟩, ho⟩ : ∃ o : Op3, opAt l k = o := ⟨_, rfl⟩
      have hiso : isOpB (t, a, i) = true := by rw [← ho]; exact HOP.out _ (opAt_mem hlt)
      have h16 := isOp_range hiso
      have HNX : Hid (runQ seesF fallF l (k + 1) = stepQ seesF fallF (runQ seesF fallF l k) (t, a, i)) := by show _ = _; rw [runQ, ho]
      rw [ho] at e0 e1 e2
      simp only at e0 e1 e2
      have hbR : b < wr.heap.size := Nat.lt_of_lt_of_le hbw HBW.out.size
      have HCO : Hid (∀ W, Below wr.heap.size wr W → Calls Tryd.prog 46 #[.pointer (some ⟨R, 0, none⟩), .agg #[.int .i64 t, .int .i64 a, .int .i64 i]] W fun e w' => e = .returned (.tuple #[]) ∧ CameTo W0 w' R (.func (.func NS) #[] #[]) (.func (.func NF) BF CF) (stepQ seesF fallF (runQ seesF fallF l k) (t, a, i))) := fun W hW =>
        HCA.out W0 W R _ ck (t, a, i) HKK.out (HK.out.below hW) (HOK.out k hk) h16.1 h16.2
      clear ho hiso h16
      go_wp2_with fail
      refine (HCO.out _ ((Below.refl _ wr).alloc (Nat.le_refl _) _)).mono ?_
      rintro e w3 ⟨rfl, ho3⟩
      have HO3 := hid_q ho3
      clear ho3 e0 e1 e2
      go_wp2_with fail
      go_roundw
      case rel => exact ⟨k + 1, by omega, by go_num, by rw [HNX.out]; exact HO3.out⟩
      case measure => simp [intOf]; omega
    · have hlt' : ¬ (k : Int) < (l.length : Int) := by omega
      obtain rfl : k = l.length := by omega
      clear hk hlt
      go_wp2_with fail
      go_ret2
      exact ⟨W0, R, rfl, HB0.out, ck, HK.out⟩
set_option maxHeartbeats 16000000 in
set_option maxRecDepth 100000 in
theorem whole_bad (S F : Value) (l : List Op3) (v : Value) (w : World) (hI : IsOps w v l) (hc : (chk l).2 ≠ 0) :
    Calls Tryd.prog 26 #[v, .agg #[S, F]] w fun e w' => e = .returned (.tuple #[.pointer none, .iface 75 (.int .i64 (chk l).2)]) ∧ Below w.heap.size w w' := by
  obtain ⟨W0, hW0⟩ : ∃ W, W = w.alloc (.cells #[S, F] 51) := ⟨_, rfl⟩
  have hb0 : Below w.heap.size w W0 := by rw [hW0]; exact (Below.refl _ w).alloc (Nat.le_refl _) _
  have HB0 := hid_q hb0
  have HCK := hid_q (check_bad l v W0 (hI.below hb0 (Nat.le_refl _)) hc)
  obtain ⟨ad, b, off, cap, rfl, -⟩ := hI
  obtain ⟨n, hn⟩ : ∃ n, (chk l).2 = n := ⟨_, rfl⟩
  rw [hn] at HCK ⊢
  clear hc hb0 hn
  go_enter Tryd.func26, Tryd.ntmps26
  go_upto_region 1 with (fail)
  rw [← hW0]
  clear hW0
  go_wp2_with fail
  refine HCK.out.mono ?_
  rintro e w5 ⟨rfl, hb1⟩
  have HBW := hid_q hb1
  clear hb1
  go_wp2_with fail
  go_ret2
  exact ⟨rfl, HB0.out.trans (HBW.out.mono HB0.out.size)⟩
set_option maxHeartbeats 16000000 in
set_option maxRecDepth 100000 in
theorem run_crs {K : World → Prop} {NS NF : Nat} {BF CF : Array Value} {seesF : Crs → Int → Int → Int} {fallF : Crs → Int → Bool} (cS : RuleFn NS) (cF : RuleFn NF) (hS : SeesC NS seesF) (hF : FallK K NF BF CF fallF) (l : List Op3) (v : Value) (w : World) (hKw : ∀ W, Below w.heap.size w W → K W) (hI : IsOps w v l) :
    Calls Tryd.prog 15 #[v, .agg #[.func (.func NS) #[] #[], .func (.func NF) BF CF]] w fun e w' => ∃ a1 a2 a3, e = .returned (.tuple #[.agg #[a1, a2, a3], errV (chk l).2]) ∧
      IsInts w' a1 (if (chk l).2 = 0 then (runQ seesF fallF l l.length).done else []) ∧ IsOps w' a2 (if (chk l).2 = 0 then (runQ seesF fallF l l.length).done.flatMap (runQ seesF fallF l l.length).read else []) ∧ IsInts w' a3 (if (chk l).2 = 0 then lastsQ (runQ seesF fallF l l.length) 6 else []) ∧ Room a1 ∧ Below w.heap.size w w' := by
  obtain ⟨W0, hW0⟩ : ∃ W, W = (w.alloc (.cells #[.func (.func NS) #[] #[], .func (.func NF) BF CF] 51)).alloc (.cells #[.slice none 0 0, .slice none 0 0, .slice none 0 0] 26) := ⟨_, rfl⟩
  have hb0 : Below w.heap.size w W0 := by rw [hW0]; exact ((Below.refl _ w).alloc (Nat.le_refl _) _).alloc (by simp) _
  have HB0 := hid_q hb0
  have kz : W0.heap[w.heap.size + 1]? = some (.cells #[.slice none 0 0, .slice none 0 0, .slice none 0 0] 26 (0, 0)) := by rw [hW0]; have := World.alloc_heap_new (w.alloc (.cells #[.func (.func NS) #[] #[], .func (.func NF) BF CF] 51)) (.cells #[.slice none 0 0, .slice none 0 0, .slice none 0 0] 26); rwa [World.size_alloc] at this
  have kr : W0.heap[w.heap.size]? = some (.cells #[.func (.func NS) #[] #[], .func (.func NF) BF CF] 51 (0, 0)) := by rw [hW0]; exact (Below.heap_alloc _ _ _ (by simp)).trans (World.alloc_heap_new w _)
  have hsz : W0.heap.size = w.heap.size + 2 := by rw [hW0]; simp
  have HKZ := hid_q kz
  have HSZ := hid_q hsz
  have r0 : W0.cell? ⟨w.heap.size, 0, none⟩ = some (.func (.func NS) #[] #[]) := by rw [cell_of_row W0 _ _ _ _ _ kr]; rfl
  have r1 : W0.cell? ⟨w.heap.size, 1, none⟩ = some (.func (.func NF) BF CF) := by rw [cell_of_row W0 _ _ _ _ _ kr]; rfl
  by_cases hc : (chk l).2 = 0
  · rw [if_pos hc, if_pos hc, if_pos hc]
    have HER : Hid (errV (chk l).2 = .nilIface) := by show _ = _; rw [hc]; exact if_pos rfl
    have HWH := hid_q (whole_ok cS cF hS hF l v W0 (fun W hW => hKw W (hb0.trans (hW.mono hb0.size))) (hI.below hb0 (Nat.le_refl _)) hc)
    obtain ⟨hl40, hop, hcalm⟩ := (chk_iff l).1 hc
    have HOK : Hid (CrsOk 100 (runQ seesF fallF l l.length)) := (crsOk_all seesF fallF hop l.length (Nat.le_refl _)).up (by omega)
    obtain ⟨ad, b, off, cap, rfl, -⟩ := hI
    clear hc hop hcalm hl40 hb0 kz kr hsz hS hF cS cF hKw
    go_enter Tryd.func15, Tryd.ntmps15
    go_upto_region 1 with (fail)
    rw [← hW0]
    obtain ⟨Z, hZ⟩ : ∃ Z, Z = w.heap.size + 1 := ⟨_, rfl⟩
    rw [← hZ] at HKZ ⊢
    obtain ⟨PR, hPR⟩ : ∃ P, P = w.heap.size := ⟨_, rfl⟩
    rw [← hPR] at r0 r1 ⊢
    have HZZ : Hid (Z < W0.heap.size ∧ w.heap.size ≤ Z) := by have := HSZ.out; exact ⟨by omega, by omega⟩
    clear hW0 hZ hPR
    go_wp2_with fail
    refine HWH.out.mono ?_
    rintro e w2 ⟨W1, R, rfl, hb1, ck, hok⟩
    have HB2 : Hid (Below W0.heap.size W0 w2) := hb1.trans (hok.old.mono hb1.size)
    have kd := hok.c2
    obtain ⟨adD, cD, eD, -⟩ := own_slice3 hok.done
    have hID := isInts_own hok.done rfl
    rw [eD] at kd hID
    have HOC := hid_q (outcome_crs hok HOK.out _ _ hID HOK.out.six HOK.out.lenD)
    obtain ⟨ND, hND⟩ : ∃ n, (runQ seesF fallF l l.length).done.length = n := ⟨_, rfl⟩
    rw [hND] at kd HOC
    have hRlt := hok.lt
    clear eD hID hND
    clear hb1 hok r0 r1
    go_wp2_with fail
    refine HOC.out.mono ?_
    rintro e w5 ⟨a1, a2, a3, rfl, hi1, hi2, hi3, hr, hb5⟩
    have HBW : Hid (Below W0.heap.size W0 w5) := HB2.out.trans (hb5.mono HB2.out.size)
    have hz5 := (HBW.out.block Z HZZ.out.1).trans HKZ.out
    have HF5 := hid_q (fin5 hz5 HZZ.out.2 (HB0.out.trans (HBW.out.mono HB0.out.size)) (u1 := a1) (u2 := a2) (u3 := a3) hi1 hi2 hi3)
    have HRR := hid_q hr
    have z0 : w5.cell? ⟨Z, 0, none⟩ = some (.slice none 0 0) := by rw [cell_of_row w5 Z _ _ _ _ hz5]; rfl
    have z1 : w5.cell? ⟨Z, 1, none⟩ = some (.slice none 0 0) := by rw [cell_of_row w5 Z _ _ _ _ hz5]; rfl
    have z2 : w5.cell? ⟨Z, 2, none⟩ = some (.slice none 0 0) := by rw [cell_of_row w5 Z _ _ _ _ hz5]; rfl
    have y0 : w5.frozen? ⟨Z, 0, none⟩ = false := by simp [World.frozen?, hz5]
    have y1 : w5.frozen? ⟨Z, 1, none⟩ = false := by simp [World.frozen?, hz5]
    have y2 : w5.frozen? ⟨Z, 2, none⟩ = false := by simp [World.frozen?, hz5]
    obtain ⟨d1, n1, p1, x1⟩ : ∃ d n p, a1 = .slice d n p := by obtain ⟨a, _, _, c, h, _⟩ := hi1; exact ⟨a, _, c, h⟩
    obtain ⟨d2, n2, p2, x2⟩ : ∃ d n p, a2 = .slice d n p := by obtain ⟨a, _, _, c, h, _⟩ := hi2; exact ⟨a, _, c, h⟩
    obtain ⟨d3, n3, p3, x3⟩ : ∃ d n p, a3 = .slice d n p := by obtain ⟨a, _, _, c, h, _⟩ := hi3; exact ⟨a, _, c, h⟩
    subst x1 x2 x3
    clear hi1 hi2 hi3 hr hb5 hz5
    go_wp2_with fail
    refine bodyPost_ret (v := .tuple #[.agg #[.slice d1 n1 p1, .slice d2 n2 p2, .slice d3 n3 p3], .nilIface]) (results_twoQ Tryd.results15 _ _ Z 26 #[.slice d1 n1 p1, .slice d2 n2 p2, .slice d3 n3 p3] (0, 0) _ .nilIface rfl rfl HF5.out.1 Tryd.underlying26 rfl outcome_infoQ) rfl ⟨_, _, _, by rw [HER.out], HF5.out.2.1, HF5.out.2.2.1, HF5.out.2.2.2.1, HRR.out, HF5.out.2.2.2.2⟩
  · rw [if_neg hc, if_neg hc, if_neg hc]
    have HER : Hid (errV (chk l).2 = .iface 75 (.int .i64 (chk l).2)) := by show _ = _; unfold errV; rw [if_neg hc]
    have HWH := hid_q (whole_bad (.func (.func NS) #[] #[]) (.func (.func NF) BF CF) l v W0 (hI.below hb0 (Nat.le_refl _)) hc)
    obtain ⟨ad, b, off, cap, rfl, -⟩ := hI
    obtain ⟨n, hn⟩ : ∃ n, (chk l).2 = n := ⟨_, rfl⟩
    rw [hn] at HER HWH ⊢
    clear hc hb0 kz kr hsz hS hF cS cF hn hKw
    go_enter Tryd.func15, Tryd.ntmps15
    go_upto_region 1 with (fail)
    rw [← hW0]
    obtain ⟨Z, hZ⟩ : ∃ Z, Z = w.heap.size + 1 := ⟨_, rfl⟩
    rw [← hZ] at HKZ ⊢
    obtain ⟨PR, hPR⟩ : ∃ P, P = w.heap.size := ⟨_, rfl⟩
    rw [← hPR] at r0 r1 ⊢
    have HZZ : Hid (Z < W0.heap.size ∧ w.heap.size ≤ Z) := by have := HSZ.out; exact ⟨by omega, by omega⟩
    clear hW0 hZ hPR
    go_wp2_with fail
    refine HWH.out.mono ?_
    rintro e w5 ⟨rfl, hb1⟩
    have HBW := hid_q hb1
    have hz5 := (HBW.out.block Z HZZ.out.1).trans HKZ.out
    have HF5 := hid_q (fin5 hz5 HZZ.out.2 (HB0.out.trans (HBW.out.mono HB0.out.size)) (u1 := .slice none 0 0) (u2 := .slice none 0 0) (u3 := .slice none 0 0) (isInts_nil _) (isOps_nilQ _) (isInts_nil _))
    have z0 : w5.cell? ⟨Z, 0, none⟩ = some (.slice none 0 0) := by rw [cell_of_row w5 Z _ _ _ _ hz5]; rfl
    have z1 : w5.cell? ⟨Z, 1, none⟩ = some (.slice none 0 0) := by rw [cell_of_row w5 Z _ _ _ _ hz5]; rfl
    have z2 : w5.cell? ⟨Z, 2, none⟩ = some (.slice none 0 0) := by rw [cell_of_row w5 Z _ _ _ _ hz5]; rfl
    have y0 : w5.frozen? ⟨Z, 0, none⟩ = false := by simp [World.frozen?, hz5]
    have y1 : w5.frozen? ⟨Z, 1, none⟩ = false := by simp [World.frozen?, hz5]
    have y2 : w5.frozen? ⟨Z, 2, none⟩ = false := by simp [World.frozen?, hz5]
    clear hb1 hz5 r0 r1
    go_wp2_with fail
    refine bodyPost_ret (v := .tuple #[.agg #[.slice none 0 0, .slice none 0 0, .slice none 0 0], .iface 75 (.int .i64 n)]) (results_twoQ Tryd.results15 _ _ Z 26 #[.slice none 0 0, .slice none 0 0, .slice none 0 0] (0, 0) _ (.iface 75 (.int .i64 n)) rfl rfl HF5.out.1 Tryd.underlying26 rfl outcome_infoQ) rfl ⟨_, _, _, by rw [HER.out], HF5.out.2.1, HF5.out.2.2.1, HF5.out.2.2.2.1, ⟨_, _, _, rfl, Nat.le_refl _⟩, HF5.out.2.2.2.2⟩
theorem call_latest : RuleFn 16 := fun _ _ => by kernel_rfl
theorem call_stale : RuleFn 17 := fun _ _ => by kernel_rfl
theorem outV (l : List Op3) : outU 1 okV false l = ((if (chk l).2 = 0 then (runQ seesV fallV l l.length).done else [], if (chk l).2 = 0 then (runQ seesV fallV l l.length).done.flatMap (runQ seesV fallV l l.length).read else [], if (chk l).2 = 0 then lastsQ (runQ seesV fallV l l.length) 6 else []), (chk l).2) := by
  by_cases hc : (chk l).2 = 0
  · rw [if_pos hc, if_pos hc, if_pos hc, crs_out rulesV hc, hc]; rfl
  · rw [if_neg hc, if_neg hc, if_neg hc, outU_bad hc]
set_option maxHeartbeats 8000000 in
set_option maxRecDepth 100000 in
theorem validC : RunsC 5 1 okV false := by
  intro l v w hI
  rw [outV]
  have HRC : Hid (∀ W, Below w.heap.size w W → _) := fun W hW => run_crs call_latest call_stale seesV_c fallV_c.k l v W (fun _ _ => trivial) (hI.below hW (Nat.le_refl _))
  obtain ⟨A, hA⟩ : ∃ A, (if (chk l).2 = 0 then (runQ seesV fallV l l.length).done else []) = A := ⟨_, rfl⟩
  obtain ⟨B, hB⟩ : ∃ B, (if (chk l).2 = 0 then (runQ seesV fallV l l.length).done.flatMap (runQ seesV fallV l l.length).read else []) = B := ⟨_, rfl⟩
  obtain ⟨C, hC⟩ : ∃ C, (if (chk l).2 = 0 then lastsQ (runQ seesV fallV l l.length) 6 else []) = C := ⟨_, rfl⟩
  obtain ⟨er, her⟩ : ∃ e, errV (chk l).2 = e := ⟨_, rfl⟩
  have HER : Hid (er = .nilIface ∨ ∃ n, er = .iface 75 (.int .i64 n)) := by
    show _ ∨ _
    rw [← her]
    unfold errV
    split
    · exact .inl rfl
    · exact .inr ⟨_, rfl⟩
  rw [hA, hB, hC, her] at HRC
  simp only
  rw [hA, hB, hC, her]
  obtain ⟨ad, b, off, cap, rfl, -⟩ := hI
  obtain ⟨W0, hW0⟩ : ∃ W, W = w.alloc (.cells #[.slice none 0 0, .slice none 0 0, .slice none 0 0] 26) := ⟨_, rfl⟩
  have hb0 : Below w.heap.size w W0 := by rw [hW0]; exact (Below.refl _ w).alloc (Nat.le_refl _) _
  have HB0 := hid_q hb0
  have HCK := hid_q (HRC.out W0 hb0)
  have kz : W0.heap[w.heap.size]? = some (.cells #[.slice none 0 0, .slice none 0 0, .slice none 0 0] 26 (0, 0)) := by rw [hW0]; exact World.alloc_heap_new w _
  have HKZ := hid_q kz
  have hsz : W0.heap.size = w.heap.size + 1 := by rw [hW0]; simp
  have HSZ := hid_q hsz
  clear hA hB hC her HRC hb0 kz hsz
  go_enter Tryd.func5, Tryd.ntmps5
  go_upto_region 1 with (fail)
  rw [← hW0]
  obtain ⟨Z, hZ⟩ : ∃ Z, Z = w.heap.size := ⟨_, rfl⟩
  rw [← hZ] at HKZ ⊢
  have HZZ : Hid (Z < W0.heap.size ∧ w.heap.size ≤ Z) := by have := HSZ.out; exact ⟨by omega, by omega⟩
  clear hW0 hZ
  go_wp2_with fail
  refine HCK.out.mono ?_
  rintro e w5 ⟨a1, a2, a3, rfl, hi1, hi2, hi3, hr, hb5⟩
  have hz5 := (hb5.block Z HZZ.out.1).trans HKZ.out
  have HF5 := hid_q (fin5 hz5 HZZ.out.2 (HB0.out.trans (hb5.mono HB0.out.size)) (u1 := a1) (u2 := a2) (u3 := a3) hi1 hi2 hi3)
  have HRR := hid_q hr
  have z0 : w5.cell? ⟨Z, 0, none⟩ = some (.slice none 0 0) := by rw [cell_of_row w5 Z _ _ _ _ hz5]; rfl
  have z1 : w5.cell? ⟨Z, 1, none⟩ = some (.slice none 0 0) := by rw [cell_of_row w5 Z _ _ _ _ hz5]; rfl
  have z2 : w5.cell? ⟨Z, 2, none⟩ = some (.slice none 0 0) := by rw [cell_of_row w5 Z _ _ _ _ hz5]; rfl
  have y0 : w5.frozen? ⟨Z, 0, none⟩ = false := by simp [World.frozen?, hz5]
  have y1 : w5.frozen? ⟨Z, 1, none⟩ = false := by simp [World.frozen?, hz5]
  have y2 : w5.frozen? ⟨Z, 2, none⟩ = false := by simp [World.frozen?, hz5]
  obtain ⟨d1, n1, p1, x1⟩ : ∃ d n p, a1 = .slice d n p := by obtain ⟨a, _, _, c, h, _⟩ := hi1; exact ⟨a, _, c, h⟩
  obtain ⟨d2, n2, p2, x2⟩ : ∃ d n p, a2 = .slice d n p := by obtain ⟨a, _, _, c, h, _⟩ := hi2; exact ⟨a, _, c, h⟩
  obtain ⟨d3, n3, p3, x3⟩ : ∃ d n p, a3 = .slice d n p := by obtain ⟨a, _, _, c, h, _⟩ := hi3; exact ⟨a, _, c, h⟩
  subst x1 x2 x3
  clear hi1 hi2 hi3 hr hb5 hz5
  rcases HER.out with rfl | ⟨ne, rfl⟩
  · go_wp2_with fail
    exact bodyPost_ret (v := .tuple #[.agg #[.slice d1 n1 p1, .slice d2 n2 p2, .slice d3 n3 p3], .nilIface]) (results_twoQ Tryd.results5 _ _ Z 26 #[.slice d1 n1 p1, .slice d2 n2 p2, .slice d3 n3 p3] (0, 0) _ .nilIface rfl rfl HF5.out.1 Tryd.underlying26 rfl outcome_infoQ) rfl ⟨_, _, _, rfl, HF5.out.2.1, HF5.out.2.2.1, HF5.out.2.2.2.1, HRR.out, HF5.out.2.2.2.2⟩
  · go_wp2_with fail
    exact bodyPost_ret (v := .tuple #[.agg #[.slice d1 n1 p1, .slice d2 n2 p2, .slice d3 n3 p3], .iface 75 (.int .i64 ne)]) (results_twoQ Tryd.results5 _ _ Z 26 #[.slice d1 n1 p1, .slice d2 n2 p2, .slice d3 n3 p3] (0, 0) _ (.iface 75 (.int .i64 ne)) rfl rfl HF5.out.1 Tryd.underlying26 rfl outcome_infoQ) rfl ⟨_, _, _, rfl, HF5.out.2.1, HF5.out.2.2.1, HF5.out.2.2.2.1, HRR.out, HF5.out.2.2.2.2⟩
end Go.Proofs.YtccjognnehoodafDoor
