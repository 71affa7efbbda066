/-
  PROVED HERE: slices.IndexFunc and slices.ContainsFunc over a slice of edges, for the two closures that the program hands them: they tell whether there is one that the closure says yes to, where the closure answers by a plain test and leaves old memory as it was.
  Conditions: none.
-/
import Derived.Test.YtmjjiehnjghndaaDoorOddPair0
import Derived.Test.YtmjjiehnjghndaaDoorRegion
namespace Go.Proofs.YtmjjiehnjghndaaDoor
open Go.RowKit

theorem any_snoc {q : Edge2 → Bool} {l : List Edge2} {k : Nat} {e : Edge2} (h : l.take (k + 1) = l.take k ++ [e]) (h1 : (l.take k).any q = false) (h2 : q e = false) : (l.take (k + 1)).any q = false := by
  rw [h, List.any_append, h1]; simp [h2]
theorem any_hit {q : Edge2 → Bool} {l : List Edge2} {e : Edge2} (h : e ∈ l) (h2 : q e = true) : l.any q = true := List.any_eq_true.2 ⟨e, h, h2⟩

set_option maxHeartbeats 4000000 in
theorem index_edges (l : List Edge2) (v : Value) (q : Edge2 → Bool) (p1 p2 p3 : Value) (w : World) (hI : IsEdges w v l) (hlen : l.length ≤ 140737488351)
    (hp : ∀ W : World, Below w.heap.size w W → ∀ e ∈ l, Calls Tryd.prog 53 #[.agg #[.int .i64 e.1, .int .i64 e.2], p1, p2, p3] W fun r w' => r = .returned (.bool (q e)) ∧ Below W.heap.size W w') :
    Calls Tryd.prog 71 #[v, .func (.func 53) #[] #[p1, p2, p3]] w fun r w' => ∃ n : Int, r = .returned (.int .i64 n) ∧ (decide (0 ≤ n) = l.any q) ∧ Below w.heap.size w w' := by
  obtain ⟨ad, b, off, cap, rfl, ha, _, hbB, hops⟩ := hI
  have HO : Hid (∀ W, Below w.heap.size w W → ∀ k, k < l.length → ad = some ⟨b, off, none⟩ ∧ W.cell? ⟨b, off + k * 2, none⟩ = some (.int .i64 (l.getD k (0, 0)).1) ∧ W.cell? ⟨b, off + k * 2 + 1, none⟩ = some (.int .i64 (l.getD k (0, 0)).2)) := fun W hW k hk => ⟨ha (by omega), (hops.below hW hbB) k hk⟩
  have HP : Hid (∀ W : World, Below w.heap.size w W → ∀ e ∈ l, Calls Tryd.prog 53 #[.agg #[.int .i64 e.1, .int .i64 e.2], p1, p2, p3] W fun r w' => r = .returned (.bool (q e)) ∧ Below W.heap.size W w') := hp
  clear ha hbB hops hp
  go_enter Tryd.func71, Tryd.ntmps71
  go_wp2
  go_loopw [8] (fun v8 wr => ∃ k : Nat, k ≤ l.length ∧ v8 = .int .i64 k ∧ (l.take k).any q = false ∧ Below w.heap.size w wr) (fun v8 _ => l.length - (intOf v8).toNat)
  case atStart => exact ⟨0, Nat.zero_le _, rfl, by simp, Below.refl _ _⟩
  case round =>
    obtain ⟨k, hk, rfl, hno, hbel⟩ := hrel
    have HNO : Hid ((l.take k).any q = false) := hno
    clear hno
    have hsz := hbel.size
    by_cases hlt : k < l.length
    · obtain ⟨rfl, c0, c1⟩ := HO.out wr hbel k hlt
      obtain ⟨⟨t, a⟩, ho⟩ : ∃ o : Edge2, l.getD k (0, 0) = o := ⟨_, rfl⟩
      rw [ho] at c0 c1
      have hmem : (t, a) ∈ l := by rw [← ho]; simp [List.getD, List.getElem?_eq_getElem hlt]
      have HT : Hid (l.take (k + 1) = l.take k ++ [(t, a)]) := by
        show l.take (k + 1) = l.take k ++ [(t, a)]
        rw [List.take_succ_eq_append_getElem hlt, ← ho]; simp [List.getD, List.getElem?_eq_getElem hlt]
      have HM : Hid ((t, a) ∈ l) := hmem
      clear ho HO hmem
      simp only at c0 c1
      cases hq : q (t, a) with
      | false =>
        have HQ : Hid (q (t, a) = false) := hq
        have HC : Hid (Calls Tryd.prog 53 #[.agg #[.int .i64 t, .int .i64 a], p1, p2, p3] wr fun r w' => r = .returned (.bool false) ∧ Below wr.heap.size wr w') := hq ▸ HP.out wr hbel _ HM.out
        clear hq
        go_wp2_with (go_at_call 53; refine HC.out.mono ?_; rintro e w1 ⟨rfl, hb1⟩)
        go_roundw
        case rel => exact ⟨k + 1, by omega, by go_num, any_snoc HT.out HNO.out HQ.out, hbel.trans (hb1.mono hsz)⟩
        case measure => simp [intOf]; omega
      | true =>
        have HQ : Hid (q (t, a) = true) := hq
        have HC : Hid (Calls Tryd.prog 53 #[.agg #[.int .i64 t, .int .i64 a], p1, p2, p3] wr fun r w' => r = .returned (.bool true) ∧ Below wr.heap.size wr w') := hq ▸ HP.out wr hbel _ HM.out
        clear hq
        go_wp2_with (go_at_call 53; refine HC.out.mono ?_; rintro e w1 ⟨rfl, hb1⟩)
        go_ret
        exact ⟨_, rfl, by rw [any_hit HM.out HQ.out]; simp, hbel.trans (hb1.mono hsz)⟩
    · go_wp2
      go_ret
      refine ⟨_, rfl, ?_, hbel⟩
      have h0 := HNO.out
      rw [List.take_of_length_le (by omega)] at h0
      rw [h0]; simp
theorem contains_edges (l : List Edge2) (v : Value) (q : Edge2 → Bool) (p1 p2 p3 : Value) (w : World) (hI : IsEdges w v l) (hlen : l.length ≤ 140737488351)
    (hp : ∀ W : World, Below w.heap.size w W → ∀ e ∈ l, Calls Tryd.prog 53 #[.agg #[.int .i64 e.1, .int .i64 e.2], p1, p2, p3] W fun r w' => r = .returned (.bool (q e)) ∧ Below W.heap.size W w') :
    Calls Tryd.prog 54 #[v, .func (.func 53) #[] #[p1, p2, p3]] w fun r w' => r = .returned (.bool (l.any q)) ∧ Below w.heap.size w w' := by
  have HC : Hid (Calls Tryd.prog 71 #[v, .func (.func 53) #[] #[p1, p2, p3]] w fun r w' => ∃ n : Int, r = .returned (.int .i64 n) ∧ (decide (0 ≤ n) = l.any q) ∧ Below w.heap.size w w') := index_edges l v q p1 p2 p3 w hI hlen hp
  clear hp hI
  go_enter Tryd.func54, Tryd.ntmps54
  go_wp2_with (go_at_call 71; refine HC.out.mono ?_; rintro e w1 ⟨n, rfl, hn, hb1⟩)
  all_goals go_ret
  all_goals exact ⟨ret_bool (by simp_all), hb1⟩
end Go.Proofs.YtmjjiehnjghndaaDoor
