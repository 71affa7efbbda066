/-
  PROVED HERE: how a Stock lies in memory (a block with what there is, a map of what each deal asked), and package stock's isDeal, New, Now and Range.
  Conditions: none.
-/
import Derived.Test.YtaodbljpihcjnaaDoorSkAsk
import Derived.Test.YtaodbljpihcjnaaDoorLaneMap
import Derived.Laws.Small
import Derived.Carry
namespace Go.Proofs.YtaodbljpihcjnaaDoor
open Go.RowKit
open Go.Maps (Keyed)

/-- What each deal asked, as the map has it. -/
def askF (s : Stk) : Int → Option Value := fun t => if (1 ≤ t ∧ t ≤ 6) ∧ ¬ (s.add t = 0 ∧ s.take t = 0) then some (.agg #[.int .i64 (s.add t), .int .i64 (s.take t)]) else none
theorem askF_in {s : Stk} {t : Int} (h : (askF s t).isSome = true) : 1 ≤ t ∧ t ≤ 6 := by
  unfold askF at h
  split at h
  · rename_i h1; exact h1.1
  · cases h
theorem askF_get (s : Stk) {t : Int} (h1 : 1 ≤ t) (h6 : t ≤ 6) : (askF s t).getD (.agg #[.int .i64 0, .int .i64 0]) = .agg #[.int .i64 (s.add t), .int .i64 (s.take t)] := by
  unfold askF
  by_cases h : s.add t = 0 ∧ s.take t = 0
  · rw [if_neg (fun e => e.2 h), h.1, h.2]; rfl
  · rw [if_pos ⟨⟨h1, h6⟩, h⟩]; rfl
theorem askF_some {s : Stk} {t : Int} {u : Value} (h : askF s t = some u) : u = .agg #[.int .i64 (s.add t), .int .i64 (s.take t)] := by
  unfold askF at h
  split at h
  · exact (Option.some.inj h).symm
  · cases h
theorem askF_none {s : Stk} {t : Int} (h1 : 1 ≤ t) (h6 : t ≤ 6) (h : (askF s t).isSome = false) : s.add t = 0 ∧ s.take t = 0 := by
  unfold askF at h
  split at h
  · cases h
  · rename_i h2
    by_cases h3 : s.add t = 0 ∧ s.take t = 0
    · exact h3
    · exact absurd ⟨⟨h1, h6⟩, h3⟩ h2
theorem askF_is {s : Stk} {t : Int} (h1 : 1 ≤ t) (h6 : t ≤ 6) : (askF s t).isSome = !(decide (s.add t = 0 ∧ s.take t = 0)) := by
  unfold askF
  by_cases h : s.add t = 0 ∧ s.take t = 0
  · rw [if_neg (fun e => e.2 h), decide_eq_true h]; rfl
  · rw [if_pos ⟨⟨h1, h6⟩, h⟩, decide_eq_false h]; rfl
/-- The block. -/
def StkAt (w : World) (p M : Nat) (n : Int) : Prop := w.heap[p]? = some (.cells #[.int .i64 n, .map (some M)] 44 (0, 0))
section
variable {w w1 : World} {p M : Nat} {n : Int}
theorem StkAt.lt (h : StkAt w p M n) : p < w.heap.size := by
  have h' : w.heap[p]? = some _ := h
  exact (Array.getElem?_eq_some_iff.1 h').1
theorem StkAt.now (h : StkAt w p M n) : w.cell? ⟨p, 0, none⟩ = some (.int .i64 n) := by rw [cell_of_row w p _ _ _ _ h]; rfl
theorem StkAt.asked (h : StkAt w p M n) : w.cell? ⟨p, 1, none⟩ = some (.map (some M)) := by rw [cell_of_row w p _ _ _ _ h]; rfl
theorem StkAt.thaw (h : StkAt w p M n) (k : Nat) : w.frozen? ⟨p, k, none⟩ = false := by
  have h' : w.heap[p]? = some _ := h
  simp [World.frozen?, h']
theorem StkAt.same (h : StkAt w p M n) (hb : w1.heap[p]? = w.heap[p]?) : StkAt w1 p M n := hb.trans h
theorem StkAt.setNow (h : StkAt w p M n) (x : Int) : StkAt (w.setCell ⟨p, 0, none⟩ (.int .i64 x)) p M x := by
  have h' : w.heap[p]? = some (.cells #[.int .i64 n, .map (some M)] 44 (0, 0)) := h
  unfold StkAt World.setCell
  simp [Array.getElem?_modify, h']
theorem stkAt_new (w : World) (M : Nat) (n : Int) : StkAt (w.alloc (.cells #[.int .i64 n, .map (some M)] 44)) w.heap.size M n := by
  unfold StkAt World.alloc
  simp
end
/-- A Stock. -/
structure SkIs (w : World) (p M : Nat) (s : Stk) : Prop where
  blk : StkAt w p M s.now
  map : ∃ m, MapIs w M (askF s) m
  ne : p ≠ M
def Rep (w : World) (p : Nat) (s : Stk) (F : Nat → Prop) : Prop := ∃ M, (F = fun k => k = p ∨ k = M) ∧ SkIs w p M s
section
variable {w w1 : World} {p M : Nat} {s : Stk} {F G : Nat → Prop}
theorem SkIs.ltM (h : SkIs w p M s) : M < w.heap.size := by obtain ⟨m, hm⟩ := h.map; exact hm.lt
theorem SkIs.turn (h : SkIs w p M s) (ht : Turns F w w1) (hp : ¬ F p) (hM : ¬ F M) : SkIs w1 p M s := by
  obtain ⟨m, hm⟩ := h.map
  exact ⟨h.blk.same (ht.block p h.blk.lt hp), ⟨m, hm.turn ht hM⟩, h.ne⟩
theorem SkIs.later (h : SkIs w p M s) (hb : Below w.heap.size w w1) : SkIs w1 p M s := h.turn (Turns.of_below (F := fun _ => False) hb) (fun e => e) (fun e => e)
theorem rep_lt (h : Rep w p s F) : ∀ k, F k → k < w.heap.size := by
  obtain ⟨M, rfl, h⟩ := h
  rintro k (rfl | rfl)
  · exact h.blk.lt
  · exact h.ltM
theorem rep_later (h : Rep w p s F) (ht : Turns G w w1) (hG : ∀ k, F k → ¬ G k) : Rep w1 p s F := by
  obtain ⟨M, rfl, h⟩ := h
  exact ⟨M, rfl, h.turn ht (hG p (.inl rfl)) (hG M (.inr rfl))⟩
end
theorem zero_sums (w : World) : (zeroValue 47).run Tryd.prog w = .ok (.agg #[.int .i64 0, .int .i64 0]) w := by kernel_rfl
def dealI (t : Int) : Bool := decide (1 ≤ t ∧ t ≤ 6)
set_option maxHeartbeats 4000000 in
theorem isDealS (t : Int) (w : World) : Calls Tryd.prog 12 #[.int .i64 t] w fun e w' => e = .returned (.bool (dealI t)) ∧ w' = w := by
  by_cases h1 : 1 ≤ t
  · by_cases h2 : t ≤ 6
    · have hd : dealI t = true := decide_eq_true ⟨h1, h2⟩
      rw [hd]
      go_enter Tryd.func12, Tryd.ntmps12
      go_wp2_with fail
      go_ret
      exact ⟨rfl, rfl⟩
    · have hd : dealI t = false := decide_eq_false fun e => h2 e.2
      rw [hd]
      go_enter Tryd.func12, Tryd.ntmps12
      go_wp2_with fail
      go_ret
      exact ⟨rfl, rfl⟩
  · have hd : dealI t = false := decide_eq_false fun e => h1 e.1
    rw [hd]
    go_enter Tryd.func12, Tryd.ntmps12
    go_wp2_with fail
    go_ret
    exact ⟨rfl, rfl⟩
def NewTold (w : World) (n : Int) (e : Ending) (w' : World) : Prop := Below w.heap.size w w' ∧
    (((n < 0 ∨ 1000000 < n) ∧ ∃ po, e = .returned (.tuple #[.pointer po, .iface 41 (.int .i64 1)])) ∨
     ((0 ≤ n ∧ n ≤ 1000000) ∧ ∃ p F, e = .returned (.tuple #[ptK p, .nilIface]) ∧ Rep w' p (stk0 n) F ∧ ∀ k, F k → w.heap.size ≤ k))
set_option maxHeartbeats 4000000 in
theorem new_sk (n : Int) (w : World) : Calls Tryd.prog 4 #[.int .i64 n] w (NewTold w n) := by
  have hmm := @run_makeMap Tryd.prog
  by_cases h0 : n < 0
  · go_enter Tryd.func4, Tryd.ntmps4
    go_wp2_with fail
    go_ret2
    exact ⟨Below.refl _ _, .inl ⟨.inl h0, _, rfl⟩⟩
  · by_cases h1 : 1000000 < n
    · go_enter Tryd.func4, Tryd.ntmps4
      go_wp2_with fail
      go_ret2
      exact ⟨Below.refl _ _, .inl ⟨.inr h1, _, rfl⟩⟩
    · go_enter Tryd.func4, Tryd.ntmps4
      go_wp2_with fail
      go_ret2
      refine ⟨((Below.refl _ w).alloc (Nat.le_refl _) _).alloc (by simp) _, .inr ⟨⟨by omega, by omega⟩, w.heap.size + 1, (fun k => k = w.heap.size + 1 ∨ k = w.heap.size), rfl, ⟨w.heap.size, rfl, ?_, ⟨0, ?_⟩, by omega⟩, fun k hk => by rcases hk with rfl | rfl <;> omega⟩⟩
      · have h2 := stkAt_new (w.alloc (.map #[] 0)) w.heap.size n
        rw [show (w.alloc (.map #[] 0)).heap.size = w.heap.size + 1 by simp] at h2
        exact h2
      · refine ((mapIs_made w).turn ((Turns.refl (fun _ => False) _).alloc _) id).congr fun x => ?_
        unfold askF stk0
        simp
set_option maxHeartbeats 4000000 in
theorem now_sk {w : World} {p M : Nat} {s : Stk} (h : SkIs w p M s) : Calls Tryd.prog 10 #[ptK p] w fun e w' => e = .returned (.int .i64 s.now) ∧ Below w.heap.size w w' := by
  have c0 := h.blk.now
  unfold ptK
  clear h
  go_enter Tryd.func10, Tryd.ntmps10
  go_wp2_with fail
  go_ret
  exact ⟨rfl, Below.refl _ _⟩
end Go.Proofs.YtaodbljpihcjnaaDoor
