/-
  PROVED HERE: two tables of locks beside each other in memory, package locks' own (over whatever keeps LocksC) and the document's: what calls on the one leave of the other.
  Conditions: LocksC, where the program's table is asked.
-/
import Derived.Test.YtjaeaanpbdmfgaeDoorLocksAsk
import Derived.Test.YtjaeaanpbdmfgaeDoorRefLocks4
import Derived.Test.YtjaeaanpbdmfgaeDoorSameInts
import Derived.Test.YtjaeaanpbdmfgaeDoorTold
namespace Go.Proofs.YtjaeaanpbdmfgaeDoor
open Go.RowKit

theorem err_lk (n : Int) (w : World) (hg : EtAt w) : Calls Tryd.prog 10 #[errV n, .int .i64 n] w fun e w' => e = .returned (.bool true) ∧ Below w.heap.size w w' := by
  by_cases h : n = 0
  · subst h
    exact (error_nil 0 w).mono fun _ _ ⟨he, hw⟩ => ⟨he, by rw [hw]; exact Below.refl _ _⟩
  · rw [errV_ne h]
    exact (error_hit n n w hg).mono fun _ _ ⟨he, hb⟩ => ⟨by rw [he]; simp, hb⟩
/-- Two tables, the program's at T, the document's at M; a list v of locks beside them. -/
structure Two (PT : World → Nat → (Nat → Prop) → Tab2 → Prop) (w0 w : World) (T M : Nat) (F : Nat → Prop) (hv wv : Value) (sp sr : Tab2) (v : Value) (l : List Op3) : Prop where
  p : PT w T F sp
  r : TabAt w 30 M 0 #[hv, wv] hv wv sr
  old : Below w0.heap.size w0 w
  newp : ∀ k, F k → w0.heap.size ≤ k
  newr : w0.heap.size ≤ M
  apart : ∀ k, F k → ¬ foot M hv wv k
  row : w.ownsRow w0.heap.size 25 3 v l.length (flat l)
  side : ∀ g, v.ownBlock = some g → ¬ F g ∧ ¬ foot M hv wv g
def TwoX (PT : World → Nat → (Nat → Prop) → Tab2 → Prop) (w0 w : World) (T M : Nat) (sp sr : Tab2) (v : Value) (l : List Op3) : Prop := ∃ F hv wv, Two PT w0 w T M F hv wv sp sr v l
variable {PT : World → Nat → (Nat → Prop) → Tab2 → Prop} {w0 w w1 : World} {T M : Nat} {F : Nat → Prop} {hv wv v : Value} {sp sr : Tab2} {l : List Op3}
theorem Two.below (hC : LocksC PT) (h : Two PT w0 w T M F hv wv sp sr v l) (hb : Below w.heap.size w w1) : Two PT w0 w1 T M F hv wv sp sr v l :=
  ⟨hC.below h.p hb, h.r.below hb, h.old.trans (hb.mono h.old.size), h.newp, h.newr, h.apart, (Turns.of_below (F := fun _ => False) hb).own h.row fun _ _ hf => hf, h.side⟩
theorem TwoX.below (hC : LocksC PT) (h : TwoX PT w0 w T M sp sr v l) (hb : Below w.heap.size w w1) : TwoX PT w0 w1 T M sp sr v l := by
  obtain ⟨F, hv, wv, h⟩ := h
  exact ⟨F, hv, wv, h.below hC hb⟩
theorem TwoX.old (h : TwoX PT w0 w T M sp sr v l) : Below w0.heap.size w0 w := by
  obtain ⟨F, hv, wv, h⟩ := h
  exact h.old
theorem TwoX.list (h : TwoX PT w0 w T M sp sr v l) : IsOps w v l := by
  obtain ⟨F, hv, wv, h⟩ := h
  exact isOps_row h.row rfl
theorem TwoX.bare (h : TwoX PT w0 w T M sp sr v l) : TwoX PT w0 w T M sp sr (.slice none 0 0) [] := by
  obtain ⟨F, hv, wv, h⟩ := h
  exact ⟨F, hv, wv, h.p, h.r, h.old, h.newp, h.newr, h.apart, World.ownsRow_nil _ _ _ _, fun g hg => by simp [Value.ownBlock] at hg⟩
/-- A lock of one's own, boxed, is such a list of one. -/
theorem TwoX.box (hC : LocksC PT) (h : TwoX PT w0 w T M sp sr v l) (t i m : Int) : TwoX PT w0 (w.alloc (.cells #[.int .i64 t, .int .i64 i, .int .i64 m] 25)) T M sp sr (.slice (some ⟨w.heap.size, 0, none⟩) 1 1) [(t, i, m)] := by
  obtain ⟨F, hv, wv, h⟩ := h
  have hb : Below w.heap.size w (w.alloc (.cells #[.int .i64 t, .int .i64 i, .int .i64 m] 25)) := (Below.refl _ w).alloc (Nat.le_refl _) _
  have h1 := h.below hC hb
  refine ⟨F, hv, wv, h1.p, h1.r, h1.old, h1.newp, h1.newr, h1.apart, ⟨rfl, .inr ⟨w.heap.size, 1, #[.int .i64 t, .int .i64 i, .int .i64 m], rfl, h.old.size, heap_alloc_new w _, Nat.le_refl _, by decide, rfl, rfl⟩⟩, fun g hg => ?_⟩
  simp only [Value.ownBlock, Option.some.injEq] at hg
  subst hg
  exact ⟨fun hk => by have := hC.lt h.p _ hk; omega, fun hk => by have := (h.r.foot_lt hk).2; omega⟩
theorem TwoX.cells3 {Q : Nat} {t i m : Int} (h : TwoX PT w0 w T M sp sr (.slice (some ⟨Q, 0, none⟩) 1 1) [(t, i, m)]) : w.cell? ⟨Q, 0, none⟩ = some (.int .i64 t) ∧ w.cell? ⟨Q, 1, none⟩ = some (.int .i64 i) ∧ w.cell? ⟨Q, 2, none⟩ = some (.int .i64 m) := by
  obtain ⟨F, hv, wv, h⟩ := h
  have hc := fun j u hj => h.row.cells (g := Q) rfl j u hj
  refine ⟨?_, ?_, ?_⟩
  · have := hc 0 _ rfl; rw [Addr.add_lit, Nat.zero_add] at this; exact this
  · have := hc 1 _ rfl; rw [Addr.add_lit, Nat.zero_add] at this; exact this
  · have := hc 2 _ rfl; rw [Addr.add_lit, Nat.zero_add] at this; exact this
/-- A call on the program's table. -/
theorem Two.stepP {F1 : Nat → Prop} {s1 : Tab2} (h : Two PT w0 w T M F hv wv sp sr v l) (hp : PT w1 T F1 s1) (ht : Turns F w w1) (hf : ∀ k, F1 k → F k ∨ w.heap.size ≤ k) : Two PT w0 w1 T M F1 hv wv s1 sr v l := by
  refine ⟨hp, h.r.turn ht fun k hk hF => h.apart k hF hk, h.old.trans (ht.below h.old.size fun k hk hF => ?_), fun k hk => ?_, h.newr, fun k hk hft => ?_, ht.own h.row fun g hg hF => (h.side g hg).1 hF, fun g hg => ⟨fun hk => ?_, (h.side g hg).2⟩⟩
  · have := h.newp k hF; omega
  · rcases hf k hk with h1 | h1
    · exact h.newp k h1
    · exact Nat.le_trans h.old.size h1
  · rcases hf k hk with h1 | h1
    · exact h.apart k h1 hft
    · have := (h.r.foot_lt hft).2; omega
  · rcases hf g hk with h1 | h1
    · exact (h.side g hg).1 h1
    · have := (h.row.lt g hg).2; omega
/-- A call on the document's. -/
theorem Two.stepR (hC : LocksC PT) {hv1 wv1 : Value} {s1 : Tab2} (h : Two PT w0 w T M F hv wv sp sr v l) (hr : TabAt w1 30 M 0 #[hv1, wv1] hv1 wv1 s1) (ht : Turns (foot M hv wv) w w1) (hf : ∀ k, foot M hv1 wv1 k → foot M hv wv k ∨ w.heap.size ≤ k) : Two PT w0 w1 T M F hv1 wv1 sp s1 v l := by
  refine ⟨hC.stays _ h.p ht h.apart, hr, h.old.trans (ht.below h.old.size fun k hk hft => ?_), h.newp, h.newr, fun k hk hft => ?_, ht.own h.row fun g hg => (h.side g hg).2, fun g hg => ⟨(h.side g hg).1, fun hk => ?_⟩⟩
  · have h1 := (h.r.foot_lt hft).1
    have h2 := h.newr
    omega
  · rcases hf k hft with h1 | h1
    · exact h.apart k hk h1
    · have := hC.lt h.p k hk; omega
  · rcases hf g hk with h1 | h1
    · exact (h.side g hg).2 h1
    · have := (h.row.lt g hg).2; omega
theorem two_ask (hC : LocksC PT) (x : Op3) (h : TwoX PT w0 w T M sp sr v l) (h1 : sp.1.length ≤ 400) (h2 : sp.2.length ≤ 400) : Calls Tryd.prog 13 #[.pointer (some ⟨T, 0, none⟩), lockV x] w fun e w' => e = .returned (.tuple #[.bool (askT sp x).1.1, errV (askT sp x).1.2]) ∧ TwoX PT w0 w' T M (askT sp x).2 sr v l := by
  obtain ⟨F, hv, wv, h⟩ := h
  exact (hC.ask w T F sp x h.p h1 h2).mono fun _ _ ⟨he, F1, hp1, ht1, hf1⟩ => ⟨he, F1, hv, wv, h.stepP hp1 ht1 hf1⟩
theorem two_rask (hC : LocksC PT) (x : Op3) (h : TwoX PT w0 w T M sp sr v l) (h1 : sr.1.length ≤ 400) (h2 : sr.2.length ≤ 400) : Calls Tryd.prog 12 #[.pointer (some ⟨M, 0, none⟩), lockV x] w fun e w' => e = .returned (.tuple #[.bool (askT sr x).1.1, .int .i64 (askT sr x).1.2]) ∧ TwoX PT w0 w' T M sp (askT sr x).2 v l := by
  obtain ⟨F, hv, wv, h⟩ := h
  exact (refAsk_any 30 M 0 #[hv, wv] hv wv sr x w h.r (by omega) (by omega)).mono fun _ _ ⟨he, hv1, wv1, hr1, ht1, hf1⟩ => ⟨he, F, hv1, wv1, h.stepR hC hr1 ht1 hf1⟩
theorem two_free (hC : LocksC PT) (t : Int) (h : TwoX PT w0 w T M sp sr v l) (h1 : sp.1.length ≤ 400) (h2 : sp.2.length ≤ 400) : Calls Tryd.prog 9 #[.pointer (some ⟨T, 0, none⟩), .int .i64 t] w fun e w' => ∃ v', e = .returned (.tuple #[v', errV (freeU sp t).1.2]) ∧ IsOps w' v' (freeU sp t).1.1 ∧ TwoX PT w0 w' T M (freeU sp t).2 sr v l := by
  obtain ⟨F, hv, wv, h⟩ := h
  exact (hC.free w T F sp t h.p h1 h2).mono fun _ _ ⟨v', F1, he, ho, hp1, ht1, hf1⟩ => ⟨v', he, ho, F1, hv, wv, h.stepP hp1 ht1 hf1⟩
theorem two_rfree (hC : LocksC PT) (t : Int) (h : TwoX PT w0 w T M sp sr v l) (h1 : sr.1.length ≤ 400) (h2 : sr.2.length ≤ 400) : Calls Tryd.prog 8 #[.pointer (some ⟨M, 0, none⟩), .int .i64 t] w fun e w' => ∃ v', e = .returned v' ∧ TwoX PT w0 w' T M sp (freeT sr t).1 v' (freeT sr t).2 := by
  obtain ⟨F, hv, wv, h⟩ := h
  refine (refFree_any 30 M 0 #[hv, wv] hv wv sr t w h.r h1 h2).mono fun _ w' ⟨v', he, hv1, wv1, hrow, hr1, hsd, ht1, hf1⟩ => ⟨v', he, F, hv1, wv1, ?_⟩
  have hst := h.stepR hC hr1 ht1 hf1
  refine ⟨hst.p, hst.r, hst.old, hst.newp, hst.newr, hst.apart, own_less hrow h.old.size, fun g hg => ⟨fun hk => ?_, hsd g hg⟩⟩
  have h3 := hC.lt h.p g hk
  have h4 := (hrow.lt g hg).1
  omega
theorem two_whom (hC : LocksC PT) (x : Op3) (h : TwoX PT w0 w T M sp sr v l) (h1 : sp.1.length ≤ 400) (h2 : sp.2.length ≤ 400) : Calls Tryd.prog 16 #[.pointer (some ⟨T, 0, none⟩), lockV x] w fun e w' => ∃ v', e = .returned (.tuple #[v', errV (forU sp x).2]) ∧ IsInts w' v' (forU sp x).1 ∧ Below w.heap.size w w' := by
  obtain ⟨F, hv, wv, h⟩ := h
  exact hC.whom w T F sp x h.p h1 h2
theorem two_rwhom (x : Op3) (h : TwoX PT w0 w T M sp sr v l) (h1 : sr.1.length ≤ 400) (h2 : sr.2.length ≤ 400) : Calls Tryd.prog 15 #[.pointer (some ⟨M, 0, none⟩), lockV x] w fun e w' => ∃ v', e = .returned v' ∧ IsInts w' v' (forT sr x) ∧ Below w.heap.size w w' := by
  obtain ⟨F, hv, wv, h⟩ := h
  exact refFor_any 30 M 0 #[hv, wv] hv wv sr x w h.r (by omega) (by omega)
theorem two_held (hC : LocksC PT) (h : TwoX PT w0 w T M sp sr v l) (h1 : sp.1.length ≤ 400) (h2 : sp.2.length ≤ 400) : Calls Tryd.prog 18 #[.pointer (some ⟨T, 0, none⟩)] w fun e w' => ∃ v', e = .returned v' ∧ IsOps w' v' sp.1 ∧ Below w.heap.size w w' := by
  obtain ⟨F, hv, wv, h⟩ := h
  exact hC.held w T F sp h.p h1 h2
theorem two_waits (hC : LocksC PT) (h : TwoX PT w0 w T M sp sr v l) (h1 : sp.1.length ≤ 400) (h2 : sp.2.length ≤ 400) : Calls Tryd.prog 19 #[.pointer (some ⟨T, 0, none⟩)] w fun e w' => ∃ v', e = .returned v' ∧ IsOps w' v' sp.2 ∧ Below w.heap.size w w' := by
  obtain ⟨F, hv, wv, h⟩ := h
  exact hC.waits w T F sp h.p h1 h2
/-- A call of a Go function by its contract, as one step of a region that draws; its answer is some value. -/
theorem step_callG {P : Program} {ops : Array Oper} {o : Oper} {a : Act} {w : World} {K : Act → World → Prop} {Q : Exit → Act → World → Prop} {E : Prop}
    (hw : Region.wanted o (yielded ops a.tmps) = true) (N : FuncId) (A : Array Operand) (T : Array TypeId) (ho : o.op = .call { callee := .value (.func N), args := A, argTypes := T })
    (vals : Array Value) (hv : A.map a.eval = vals) (hent : ∀ args W, (callFunc N args).run P W = .ok (.enter N args) W) (R : Value → World → Prop)
    (hc : Calls P N vals w fun e w' => ∃ v, e = .returned v ∧ R v w') (h : ∀ v w', R v w' → K (a.put o.dst v) w') :
    if Region.wanted o (yielded ops a.tmps) = true then Oper.wp P o a w K Q else E := by
  rw [if_pos hw]
  have hrun : (execOp a.eval o).run P w = .ok (.enter N vals) w := by
    have h1 : a.eval (.func N) = .func (.func N) #[] #[] := rfl
    simp [execOp, ho, resolve, h1, hv, Deferred.ofValue, invoke, hent]
  unfold Oper.wp
  rw [hrun]
  show Calls P N vals w _
  refine hc.mono ?_
  rintro e w' ⟨v, rfl, hR⟩
  exact h v w' hR
end Go.Proofs.YtjaeaanpbdmfgaeDoor
