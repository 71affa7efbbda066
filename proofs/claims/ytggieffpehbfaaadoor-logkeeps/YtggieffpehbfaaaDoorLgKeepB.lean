/-
  PROVED HERE: what lanelaw3.LogKeeps' walk leans on: the fact that it looks at first, cuts of slices, what comes of a Do, a record more.
  Conditions: none.
-/
import Derived.Test.YtggieffpehbfaaaDoorLgKeepM
import Derived.Test.YtggieffpehbfaaaDoorLgRefWalk
import Derived.Test.YtggieffpehbfaaaDoorPlayAsk
import Derived.Test.YtggieffpehbfaaaDoorSameOps2
import Derived.Test.YtggieffpehbfaaaDoorSameInts
import Derived.Test.YtggieffpehbfaaaDoorRefHist
import Derived.Deep.Cut
import Derived.Deep.RegionHeld3
import Derived.Deep.CutRange
namespace Go.Proofs.YtggieffpehbfaaaDoor
open Go.RowKit

theorem hid_k {p : Prop} (h : p) : Hid p := h
/-- The fact that the law looks at first. -/
theorem keep_fact {n m : Nat} (hm : 2 ≤ m) : crashS ⟨[(1, 2, 1), (1, 3, 0)], [n, n + m], n + m, n, none, false⟩ 0 = ⟨[(1, 2, 1)], [n], n, n, none, false⟩ := by
  have h1 : highL ⟨[(1, 2, 1), (1, 3, 0)], [n, n + m], n + m, n, none, false⟩ 0 = n := by unfold highL; simp
  have h2 : leftL ⟨[(1, 2, 1), (1, 3, 0)], [n, n + m], n + m, n, none, false⟩ 0 = 1 := by
    unfold leftL
    rw [h1]
    have : ¬ n + m ≤ n := by omega
    simp [this]
  unfold crashS
  rw [h2]
  rfl
theorem fact_vals : valsL (doneL [(1, 2, 1)]) = [0, 0, 0, 0, 0, 0] := by decide +kernel
theorem fact_chk : (chk [(1, 2, 1)]).2 = 0 ∧ (chk [(1, 2, 1), (1, 3, 0)]).2 = 0 := by decide +kernel
theorem elem_opsK : Tryd.prog.underlying 36 = some (.slice (Tryd.prog.elem 36)) := by kernel_rfl
theorem size_opK (W : World) : (sizeOf (Tryd.prog.elem 36)).run Tryd.prog W = .ok 3 W := by kernel_rfl
theorem elem_intK : Tryd.prog.underlying 25 = some (.slice (Tryd.prog.elem 25)) := by kernel_rfl
theorem size_intK (W : World) : (sizeOf (Tryd.prog.elem 25)).run Tryd.prog W = .ok 1 W := by kernel_rfl
theorem cutO_run {ad : Option Addr} {n cap k : Nat} (hk : k ≤ cap) : ∀ W : World, (Instr.sliceAt 36 (.slice ad n cap) none (some (.int .i64 (k : Int))) none).run Tryd.prog W = .ok (.slice ad k cap) W := fun W => by
  rw [run_sliceAt_slice W _ _ _ _ _ elem_opsK, run_slice_h W _ _ _ _ elem_opsK _ _ (by omega) (by omega), size_opK]
  cases ad with
  | none => simp [Result.andThen, sliced]
  | some a => simp [Result.andThen, sliced, Addr.add]
theorem cutI_run {ad : Option Addr} {n cap k : Nat} (hk : k ≤ cap) : ∀ W : World, (Instr.sliceAt 25 (.slice ad n cap) none (some (.int .i64 (k : Int))) none).run Tryd.prog W = .ok (.slice ad k cap) W := fun W => by
  rw [run_sliceAt_slice W _ _ _ _ _ elem_intK, run_slice_h W _ _ _ _ elem_intK _ _ (by omega) (by omega), size_intK]
  cases ad with
  | none => simp [Result.andThen, sliced]
  | some a => simp [Result.andThen, sliced, Addr.add]
theorem sync_two (s : Lg) : syncE s = 0 ∨ syncE s = 6 := by
  unfold syncE
  split
  · exact .inr rfl
  · split
    · exact .inr rfl
    · exact .inl rfl
/-- What is refused leaves history and marks. -/
theorem do_two {s s' : Lg} {o : Op3} {r : Int} (h : DoR s o r s') : (r ≠ 0 ∧ s'.hist = s.hist ∧ s'.ends = s.ends ∧ (r = 6 ∨ r = (chk (s.hist ++ [o])).2)) ∨ (r = 0 ∧ (chk (s.hist ++ [o])).2 = 0 ∧ ∃ n, 2 ≤ n ∧ n ≤ 1000 ∧ s' = ⟨s.hist ++ [o], s.ends ++ [s.bytes + n], s.bytes + n, s.safe, lessO s.left, false⟩) := by
  rcases h with ⟨a1, rfl, rfl⟩ | ⟨a1, a2, rfl, rfl⟩ | ⟨n, a1, a2, a3, a4, a5, rfl, rfl⟩ | ⟨n, a1, a2, a3, a4, a5, rfl, rfl⟩
  · exact .inl ⟨by decide, rfl, rfl, .inl rfl⟩
  · exact .inl ⟨a2, rfl, rfl, .inr rfl⟩
  · exact .inl ⟨by decide, rfl, rfl, .inl rfl⟩
  · exact .inr ⟨rfl, a2, n, a4, a5, rfl⟩
theorem own_shape {w : World} {base e size n : Nat} {v : Value} {xs : List Value} (h : w.ownsRow base e size v n xs) : ∃ ad cap, v = .slice ad n cap ∧ n ≤ cap := by
  obtain ⟨_, ⟨hv, hz⟩ | ⟨g, cap, cur, hv, _, _, hn, _⟩⟩ := h
  · exact ⟨none, 0, by rw [hv, hz], by omega⟩
  · exact ⟨_, cap, hv, hn⟩
theorem rows_apartK {w : World} {b1 b2 e1 e2 s1 s2 n1 n2 : Nat} {v1 v2 : Value} {xs1 xs2 : List Value} (h1 : w.ownsRow b1 e1 s1 v1 n1 xs1) (h2 : w.ownsRow b2 e2 s2 v2 n2 xs2) (he : e1 ≠ e2) : v1.ownBlock = none ∨ v1.ownBlock ≠ v2.ownBlock := by
  obtain ⟨_, ⟨hv, _⟩ | ⟨g1, c1, cur1, hv1, _, hg1, _⟩⟩ := h1
  · exact .inl (by rw [hv]; rfl)
  · obtain ⟨_, ⟨hv, _⟩ | ⟨g2, c2, cur2, hv2, _, hg2, _⟩⟩ := h2
    · exact .inr (by rw [hv1, hv]; simp [Value.ownBlock])
    · refine .inr fun e => he ?_
      rw [hv1, hv2] at e
      simp only [Value.ownBlock, Option.some.injEq] at e
      subst e
      rw [hg1] at hg2
      have := Option.some.inj hg2
      simp only [Obj.cells.injEq] at this
      exact this.2.1
/-- A record more. -/
theorem KpF.more {Rep : World → Nat → Lg → (Nat → Prop) → Prop} (hR : LogW Rep) {w0 V W2 : World} {p n : Nat} {s : Lg} {o : Op3} {F : Nat → Prop} {nv mv mv' : Value} (hlg : LgF Rep w0 V p ⟨s.hist ++ [o], s.ends ++ [s.bytes + n], s.bytes + n, s.safe, lessO s.left, false⟩ F)
    (hn : RowA w0 V F 32 3 nv (s.hist.length + 1) (flat (s.hist ++ [o]))) (hm : RowA w0 V F 3 1 mv (s.hist.length + 1) ((marksL s).map natC))
    (ho : W2.ownsRow w0.heap.size 3 1 mv' (s.hist.length + 1 + 1) ((marksL s).map natC ++ [natC (s.bytes + n)])) (hg : V.grownBy W2 mv.ownBlock) (ha : ∀ g, mv'.ownBlock = some g → mv.ownBlock = some g ∨ V.heap.size ≤ g) :
    KpF Rep w0 W2 p ⟨s.hist ++ [o], s.ends ++ [s.bytes + n], s.bytes + n, s.safe, lessO s.left, false⟩ F nv mv' := by
  have hl : (s.hist ++ [o]).length = s.hist.length + 1 := by rw [List.length_append]; rfl
  refine ⟨hlg.grown hR hm hg, ?_, ?_⟩
  · show RowA w0 W2 F _ 3 nv (s.hist ++ [o]).length _
    rw [hl]
    exact ⟨hn.1.kept hg (rows_apartK hn.1 hm.1 (by decide)), hn.2⟩
  · show RowA w0 W2 F _ 1 mv' ((s.hist ++ [o]).length + 1) ((marksL _).map natC)
    rw [hl, marks_does, List.map_append]
    exact hlg.new_row hR hm ho ha
theorem opsShapeK {w : World} {v : Value} {l : List Op3} (h : IsOps w v l) : ∃ ad cap, v = .slice ad l.length cap := by
  obtain ⟨ad, _, _, cap, hv, _⟩ := h
  exact ⟨ad, cap, hv⟩
theorem intsShapeK {w : World} {v : Value} {l : List Int} (h : IsInts w v l) : ∃ ad cap, v = .slice ad l.length cap := by
  obtain ⟨ad, _, _, cap, hv, _⟩ := h
  exact ⟨ad, cap, hv⟩
theorem markTo_succ (m : List Nat) (h n : Nat) : markTo m h (n + 1) = if m.getD n 0 ≤ h then n else markTo m h n := rfl
end Go.Proofs.YtggieffpehbfaaaDoor
