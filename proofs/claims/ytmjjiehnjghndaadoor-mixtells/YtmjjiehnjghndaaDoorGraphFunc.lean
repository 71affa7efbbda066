/-
  PROVED HERE: slices.IndexFunc and slices.ContainsFunc over a slice of edges, for the two closures that package graph hands them: they tell whether there is one that the closure says yes to, where the closure answers by a plain test and leaves old memory as it was. graph.Check's answer, for any edges.
  Conditions: none.
-/
import Derived.Test.YtmjjiehnjghndaaDoorGraphBools
namespace Go.Proofs.YtmjjiehnjghndaaDoor
open Go.RowKit

theorem ret_bool' {a b : Bool} (h : a = b) : Ending.returned (.bool a) = .returned (.bool b) := by rw [h]
theorem gany_snoc {q : Edge2 → Bool} {l : List Edge2} {k : Nat} {e : Edge2} (h : l.take (k + 1) = l.take k ++ [e]) (h1 : (l.take k).any q = false) (h2 : q e = false) : (l.take (k + 1)).any q = false := by
  rw [h, List.any_append, h1]; simp [h2]
theorem gany_hit {q : Edge2 → Bool} {l : List Edge2} {e : Edge2} (h : e ∈ l) (h2 : q e = true) : l.any q = true := List.any_eq_true.2 ⟨e, h, h2⟩

set_option maxHeartbeats 4000000 in
theorem index_next (l : List Edge2) (v : Value) (q : Edge2 → Bool) (p1 p2 : Value) (w : World) (hI : IsEdges w v l) (hlen : l.length ≤ 140737488351)
    (hp : ∀ W : World, Below w.heap.size w W → ∀ e ∈ l, Calls Tryd.prog 75 #[.agg #[.int .i64 e.1, .int .i64 e.2], p1, p2] W fun r w' => r = .returned (.bool (q e)) ∧ Below W.heap.size W w') :
    Calls Tryd.prog 71 #[v, .func (.func 75) #[] #[p1, p2]] w fun r w' => ∃ n : Int, r = .returned (.int .i64 n) ∧ (decide (0 ≤ n) = l.any q) ∧ Below w.heap.size w w' := by
  obtain ⟨ad, b, off, cap, rfl, ha, _, hbB, hops⟩ := hI
  have HO : Hid (∀ W, Below w.heap.size w W → ∀ k, k < l.length → ad = some ⟨b, off, none⟩ ∧ W.cell? ⟨b, off + k * 2, none⟩ = some (.int .i64 (l.getD k (0, 0)).1) ∧ W.cell? ⟨b, off + k * 2 + 1, none⟩ = some (.int .i64 (l.getD k (0, 0)).2)) := fun W hW k hk => ⟨ha (by omega), (hops.below hW hbB) k hk⟩
  have HP : Hid (∀ W : World, Below w.heap.size w W → ∀ e ∈ l, Calls Tryd.prog 75 #[.agg #[.int .i64 e.1, .int .i64 e.2], p1, p2] W fun r w' => r = .returned (.bool (q e)) ∧ Below W.heap.size W w') := hp
  clear ha hbB hops hp
  go_enter Tryd.func71, Tryd.ntmps71
  go_wp2
  go_loopw [8] (fun v8 wr => ∃ k : Nat, k ≤ l.length ∧ v8 = .int .i64 k ∧ (l.take k).any q = false ∧ Below w.heap.size w wr) (fun v8 _ => l.length - (intOf v8).toNat)
  case atStart => exact ⟨0, Nat.zero_le _, rfl, by simp, Below.refl _ _⟩
  case round =>
    obtain ⟨k, hk, rfl, hno, hbel⟩ := hrel
    have HNO : Hid ((l.take k).any q = false) := hno
    clear hno
    have hsz := hbel.size
    by_cases hlt : k < l.length
    · obtain ⟨rfl, c0, c1⟩ := HO.out wr hbel k hlt
      obtain ⟨⟨t, a⟩, ho⟩ : ∃ o : Edge2, l.getD k (0, 0) = o := ⟨_, rfl⟩
      rw [ho] at c0 c1
      have hmem : (t, a) ∈ l := by rw [← ho]; simp [List.getD, List.getElem?_eq_getElem hlt]
      have HT : Hid (l.take (k + 1) = l.take k ++ [(t, a)]) := by
        show l.take (k + 1) = l.take k ++ [(t, a)]
        rw [List.take_succ_eq_append_getElem hlt, ← ho]; simp [List.getD, List.getElem?_eq_getElem hlt]
      have HM : Hid ((t, a) ∈ l) := hmem
      clear ho HO hmem
      simp only at c0 c1
      cases hq : q (t, a) with
      | false =>
        have HQ : Hid (q (t, a) = false) := hq
        have HC : Hid (Calls Tryd.prog 75 #[.agg #[.int .i64 t, .int .i64 a], p1, p2] wr fun r w' => r = .returned (.bool false) ∧ Below wr.heap.size wr w') := hq ▸ HP.out wr hbel _ HM.out
        clear hq
        go_wp2_with (go_at_call 75; refine HC.out.mono ?_; rintro e w1 ⟨rfl, hb1⟩)
        go_roundw
        case rel => exact ⟨k + 1, by omega, by go_num, gany_snoc HT.out HNO.out HQ.out, hbel.trans (hb1.mono hsz)⟩
        case measure => simp [intOf]; omega
      | true =>
        have HQ : Hid (q (t, a) = true) := hq
        have HC : Hid (Calls Tryd.prog 75 #[.agg #[.int .i64 t, .int .i64 a], p1, p2] wr fun r w' => r = .returned (.bool true) ∧ Below wr.heap.size wr w') := hq ▸ HP.out wr hbel _ HM.out
        clear hq
        go_wp2_with (go_at_call 75; refine HC.out.mono ?_; rintro e w1 ⟨rfl, hb1⟩)
        go_ret
        exact ⟨_, rfl, by rw [gany_hit HM.out HQ.out]; simp, hbel.trans (hb1.mono hsz)⟩
    · go_wp2
      go_ret
      refine ⟨_, rfl, ?_, hbel⟩
      have h0 := HNO.out
      rw [List.take_of_length_le (by omega)] at h0
      rw [h0]; simp
theorem contains_next (l : List Edge2) (v : Value) (q : Edge2 → Bool) (p1 p2 : Value) (w : World) (hI : IsEdges w v l) (hlen : l.length ≤ 140737488351)
    (hp : ∀ W : World, Below w.heap.size w W → ∀ e ∈ l, Calls Tryd.prog 75 #[.agg #[.int .i64 e.1, .int .i64 e.2], p1, p2] W fun r w' => r = .returned (.bool (q e)) ∧ Below W.heap.size W w') :
    Calls Tryd.prog 54 #[v, .func (.func 75) #[] #[p1, p2]] w fun r w' => r = .returned (.bool (l.any q)) ∧ Below w.heap.size w w' := by
  have HC : Hid (Calls Tryd.prog 71 #[v, .func (.func 75) #[] #[p1, p2]] w fun r w' => ∃ n : Int, r = .returned (.int .i64 n) ∧ (decide (0 ≤ n) = l.any q) ∧ Below w.heap.size w w') := index_next l v q p1 p2 w hI hlen hp
  clear hp hI
  go_enter Tryd.func54, Tryd.ntmps54
  go_wp2_with (go_at_call 71; refine HC.out.mono ?_; rintro e w1 ⟨n, rfl, hn, hb1⟩)
  all_goals go_ret
  all_goals exact ⟨ret_bool' (by simp_all), hb1⟩

set_option maxHeartbeats 4000000 in
theorem index_wrong (l : List Edge2) (v : Value) (q : Edge2 → Bool) (w : World) (hI : IsEdges w v l) (hlen : l.length ≤ 140737488351)
    (hp : ∀ W : World, Below w.heap.size w W → ∀ e ∈ l, Calls Tryd.prog 72 #[.agg #[.int .i64 e.1, .int .i64 e.2]] W fun r w' => r = .returned (.bool (q e)) ∧ Below W.heap.size W w') :
    Calls Tryd.prog 71 #[v, .func (.func 72) #[] #[]] w fun r w' => ∃ n : Int, r = .returned (.int .i64 n) ∧ (decide (0 ≤ n) = l.any q) ∧ Below w.heap.size w w' := by
  obtain ⟨ad, b, off, cap, rfl, ha, _, hbB, hops⟩ := hI
  have HO : Hid (∀ W, Below w.heap.size w W → ∀ k, k < l.length → ad = some ⟨b, off, none⟩ ∧ W.cell? ⟨b, off + k * 2, none⟩ = some (.int .i64 (l.getD k (0, 0)).1) ∧ W.cell? ⟨b, off + k * 2 + 1, none⟩ = some (.int .i64 (l.getD k (0, 0)).2)) := fun W hW k hk => ⟨ha (by omega), (hops.below hW hbB) k hk⟩
  have HP : Hid (∀ W : World, Below w.heap.size w W → ∀ e ∈ l, Calls Tryd.prog 72 #[.agg #[.int .i64 e.1, .int .i64 e.2]] W fun r w' => r = .returned (.bool (q e)) ∧ Below W.heap.size W w') := hp
  clear ha hbB hops hp
  go_enter Tryd.func71, Tryd.ntmps71
  go_wp2
  go_loopw [8] (fun v8 wr => ∃ k : Nat, k ≤ l.length ∧ v8 = .int .i64 k ∧ (l.take k).any q = false ∧ Below w.heap.size w wr) (fun v8 _ => l.length - (intOf v8).toNat)
  case atStart => exact ⟨0, Nat.zero_le _, rfl, by simp, Below.refl _ _⟩
  case round =>
    obtain ⟨k, hk, rfl, hno, hbel⟩ := hrel
    have HNO : Hid ((l.take k).any q = false) := hno
    clear hno
    have hsz := hbel.size
    by_cases hlt : k < l.length
    · obtain ⟨rfl, c0, c1⟩ := HO.out wr hbel k hlt
      obtain ⟨⟨t, a⟩, ho⟩ : ∃ o : Edge2, l.getD k (0, 0) = o := ⟨_, rfl⟩
      rw [ho] at c0 c1
      have hmem : (t, a) ∈ l := by rw [← ho]; simp [List.getD, List.getElem?_eq_getElem hlt]
      have HT : Hid (l.take (k + 1) = l.take k ++ [(t, a)]) := by
        show l.take (k + 1) = l.take k ++ [(t, a)]
        rw [List.take_succ_eq_append_getElem hlt, ← ho]; simp [List.getD, List.getElem?_eq_getElem hlt]
      have HM : Hid ((t, a) ∈ l) := hmem
      clear ho HO hmem
      simp only at c0 c1
      cases hq : q (t, a) with
      | false =>
        have HQ : Hid (q (t, a) = false) := hq
        have HC : Hid (Calls Tryd.prog 72 #[.agg #[.int .i64 t, .int .i64 a]] wr fun r w' => r = .returned (.bool false) ∧ Below wr.heap.size wr w') := hq ▸ HP.out wr hbel _ HM.out
        clear hq
        go_wp2_with (go_at_call 72; refine HC.out.mono ?_; rintro e w1 ⟨rfl, hb1⟩)
        go_roundw
        case rel => exact ⟨k + 1, by omega, by go_num, gany_snoc HT.out HNO.out HQ.out, hbel.trans (hb1.mono hsz)⟩
        case measure => simp [intOf]; omega
      | true =>
        have HQ : Hid (q (t, a) = true) := hq
        have HC : Hid (Calls Tryd.prog 72 #[.agg #[.int .i64 t, .int .i64 a]] wr fun r w' => r = .returned (.bool true) ∧ Below wr.heap.size wr w') := hq ▸ HP.out wr hbel _ HM.out
        clear hq
        go_wp2_with (go_at_call 72; refine HC.out.mono ?_; rintro e w1 ⟨rfl, hb1⟩)
        go_ret
        exact ⟨_, rfl, by rw [gany_hit HM.out HQ.out]; simp, hbel.trans (hb1.mono hsz)⟩
    · go_wp2
      go_ret
      refine ⟨_, rfl, ?_, hbel⟩
      have h0 := HNO.out
      rw [List.take_of_length_le (by omega)] at h0
      rw [h0]; simp
theorem contains_wrong (l : List Edge2) (v : Value) (q : Edge2 → Bool) (w : World) (hI : IsEdges w v l) (hlen : l.length ≤ 140737488351)
    (hp : ∀ W : World, Below w.heap.size w W → ∀ e ∈ l, Calls Tryd.prog 72 #[.agg #[.int .i64 e.1, .int .i64 e.2]] W fun r w' => r = .returned (.bool (q e)) ∧ Below W.heap.size W w') :
    Calls Tryd.prog 54 #[v, .func (.func 72) #[] #[]] w fun r w' => r = .returned (.bool (l.any q)) ∧ Below w.heap.size w w' := by
  have HC : Hid (Calls Tryd.prog 71 #[v, .func (.func 72) #[] #[]] w fun r w' => ∃ n : Int, r = .returned (.int .i64 n) ∧ (decide (0 ≤ n) = l.any q) ∧ Below w.heap.size w w') := index_wrong l v q w hI hlen hp
  clear hp hI
  go_enter Tryd.func54, Tryd.ntmps54
  go_wp2_with (go_at_call 71; refine HC.out.mono ?_; rintro e w1 ⟨n, rfl, hn, hb1⟩)
  all_goals go_ret
  all_goals exact ⟨ret_bool' (by simp_all), hb1⟩


theorem isDeal_any (t : Int) (w : World) : Calls Tryd.prog 73 #[.int .i64 t] w fun e w' => e = .returned (.bool (dealB t)) ∧ w' = w := by
  go_enter Tryd.func73, Tryd.ntmps73
  go_wp2
  all_goals go_ret
  all_goals exact ⟨ret_bool' (by simp_all [dealB] <;> omega), rfl⟩
theorem wrong_any (e : Edge2) (w : World) : Calls Tryd.prog 72 #[.agg #[.int .i64 e.1, .int .i64 e.2]] w fun r w' => r = .returned (.bool (wrongB e)) ∧ Below w.heap.size w w' := by
  obtain ⟨t, a⟩ := e
  have HW : Hid (wrongB (t, a) = (!dealB t || !dealB a)) := rfl
  have hb : Below w.heap.size w (w.alloc (.cells #[.int .i64 t, .int .i64 a] 61)) := (Below.refl _ w).alloc (Nat.le_refl _) _
  cases h1 : dealB t with
  | false =>
    go_enter Tryd.func72, Tryd.ntmps72
    go_wp2_with (go_at_call 73; refine (isDeal_any _ _).mono ?_; rintro e w' ⟨rfl, rfl⟩; rw [h1])
    go_ret
    exact ⟨ret_bool' (by rw [HW.out, h1]; rfl), hb⟩
  | true =>
    go_enter Tryd.func72, Tryd.ntmps72
    go_wp2_with fail
    refine (isDeal_any _ _).mono ?_
    rintro e w' ⟨rfl, hw⟩
    rw [hw, h1]; clear hw
    go_wp2_with fail
    refine (isDeal_any _ _).mono ?_
    rintro e w' ⟨rfl, hw⟩
    rw [hw]; clear hw
    go_wp2
    go_ret
    exact ⟨ret_bool' (by rw [HW.out, h1]; rfl), hb⟩
/-- An error value of a number. -/
def errG (n : Int) : Value := if n = 0 then .nilIface else .iface 50 (.int .i64 n)
set_option maxHeartbeats 2000000 in
theorem gcheck_any (l : List Edge2) (v : Value) (w : World) (hI : IsEdges w v l) :
    Calls Tryd.prog 55 #[v] w fun e w' => e = .returned (errG (gchk l)) ∧ Below w.heap.size w w' := by
  have HI : Hid (IsEdges w v l) := hI
  obtain ⟨ad, b, off, cap, rfl, -, -, -, -⟩ := hI
  by_cases hl : 60 < l.length
  · have HG : Hid (gchk l = 4) := by show gchk l = 4; unfold gchk; rw [if_pos hl]
    have hl' : (60 : Int) < (l.length : Int) := by omega
    go_enter Tryd.func55, Tryd.ntmps55
    go_wp2_with fail
    go_ret
    exact ⟨by rw [HG.out]; rfl, Below.refl _ _⟩
  · have HC : Hid (Calls Tryd.prog 54 #[.slice ad l.length cap, .func (.func 72) #[] #[]] w fun r w' => r = .returned (.bool (l.any wrongB)) ∧ Below w.heap.size w w') := contains_wrong l _ wrongB w HI.out (by omega) fun W _ e _ => wrong_any e W
    have hl' : ¬ (60 : Int) < (l.length : Int) := by omega
    have HG : Hid (gchk l = if l.any wrongB = true then 1 else 0) := by show gchk l = _; unfold gchk; rw [if_neg hl]
    clear hl
    obtain ⟨x, hx⟩ : ∃ x, l.any wrongB = x := ⟨_, rfl⟩
    have HX : Hid (l.any wrongB = x) := hx
    clear hx
    go_enter Tryd.func55, Tryd.ntmps55
    go_wp2_with fail
    refine HC.out.mono ?_
    rintro e w1 ⟨rfl, hb1⟩
    rw [HX.out]
    cases x with
    | false =>
      go_wp2_with fail
      go_ret
      exact ⟨by rw [HG.out, HX.out]; rfl, hb1⟩
    | true =>
      go_wp2_with fail
      go_ret
      exact ⟨by rw [HG.out, HX.out]; rfl, hb1⟩
end Go.Proofs.YtmjjiehnjghndaaDoor
