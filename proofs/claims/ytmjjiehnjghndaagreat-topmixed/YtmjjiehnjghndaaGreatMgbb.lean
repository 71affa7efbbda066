/-
  PROVED HERE: odds.atOdds and odds.pairs answer as the plain functions of the text OddPlain say, for any list of at most 40 ops. Old memory stays as it was.
  Conditions: none.
  (Of these, what the claim wants: the rest was left out.)
  PROVED HERE: slices.IndexFunc and slices.ContainsFunc over a slice of edges, for the two closures that the program hands them: they tell whether there is one that the closure says yes to, where the closure answers by a plain test and leaves old memory as it was.
  Conditions: none.
-/
import Derived.Test.YtmjjiehnjghndaaGreatMgad
import Derived.Test.YtmjjiehnjghndaaGreatMgam
import Derived.Test.YtmjjiehnjghndaaGreatMgae
import Derived.Test.YtmjjiehnjghndaaGreatMgan
namespace Go.Proofs.YtmjjiehnjghndaaGreat
open Go.RowKit

set_option maxHeartbeats 2000000 in
theorem odd_any (t a i t2 a2 i2 : Int) (w : World) : Calls Tryz.prog 62 #[.agg #[.int .i64 t, .int .i64 a, .int .i64 i], .agg #[.int .i64 t2, .int .i64 a2, .int .i64 i2]] w fun e w' => e = .returned (.bool (oddB (t, a, i) (t2, a2, i2))) ∧ w' = (w.alloc (.cells #[.int .i64 t, .int .i64 a, .int .i64 i] 38)).alloc (.cells #[.int .i64 t2, .int .i64 a2, .int .i64 i2] 38) := by
  go_enter Tryz.func62, Tryz.ntmps62
  go_wp2
  all_goals go_ret
  all_goals exact ⟨ret_bool (by simp_all [oddB]), by first | rfl | simp_all⟩

set_option maxHeartbeats 4000000 in
theorem pairs_own (l : List Op3) (v : Value) (w : World) (hI : IsOps w v l) (hl : l.length ≤ 40) :
    Calls Tryz.prog 41 #[v] w fun e w' => ∃ v', e = .returned v' ∧ w'.ownsRow w.heap.size 80 2 v' (pairsL l).length (flatE (pairsL l)) ∧ Below w.heap.size w w' := by
  obtain ⟨ad, b, off, cap, rfl, ha, _, hbB, hops⟩ := hI
  obtain ⟨i0, hi, hz0, hs0, hy0⟩ := info_parts infoEdge
  have HI : Hid (Tryz.prog.info? 80 = some i0 ∧ i0.zero = some (.agg #[.int .i64 0, .int .i64 0]) ∧ i0.size = 2 ∧ i0.bytes = 16) := ⟨hi, hz0, hs0, hy0⟩
  clear hi hz0 hs0 hy0
  go_enter Tryz.func41, Tryz.ntmps41
  go_wp2
  go_loopw [3, 8] (fun v3 v8 wr => ∃ i : Nat, i ≤ l.length ∧ v8 = .int .i64 i ∧ wr.ownsRow w.heap.size 80 2 v3 (pairsTo l i).length (flatE (pairsTo l i)) ∧ Below w.heap.size w wr) (fun _ v8 _ => l.length - (intOf v8).toNat)
  case atStart => exact ⟨0, Nat.zero_le _, rfl, World.ownsRow_nil _ _ _ _, Below.refl _ _⟩
  case round =>
    obtain ⟨i, hi, rfl, hown, hbel⟩ := hrel
    have HOWN : Hid (wr.ownsRow w.heap.size 80 2 u3 (pairsTo l i).length (flatE (pairsTo l i))) := hown
    clear hown
    by_cases hlt : i < l.length
    · obtain rfl := ha (by omega)
      have hb1 : b < w.heap.size := by
        rcases hbB with h | h
        · exact h
        · subst h; simp at hlt
      have HO : Hid (OpsAt w b off l) := hops
      clear hops ha hbB
      go_wp2
      go_loopw [3, 5] (fun v3 v5 wr => ∃ j : Nat, i < j ∧ j ≤ l.length ∧ v5 = .int .i64 j ∧ wr.ownsRow w.heap.size 80 2 v3 (accTo l i j).length (flatE (accTo l i j)) ∧ Below w.heap.size w wr) (fun _ v5 _ => l.length - (intOf v5).toNat)
      case atStart => exact ⟨i + 1, by omega, by omega, by go_num, by rw [accTo_first]; exact HOWN.out, hbel⟩
      case round =>
        clear hbel HOWN
        obtain ⟨j, hij, hj, rfl, hown, hbel⟩ := hrel
        have hsz := hbel.size
        by_cases hjl : j < l.length
        · obtain ⟨c0, c1, c2⟩ := (HO.out.below hbel (.inl hb1)) i hlt
          obtain ⟨d0, d1, d2⟩ := (HO.out.below hbel (.inl hb1)) j hjl
          obtain ⟨⟨t, a, x⟩, ho⟩ : ∃ o : Op3, l.getD i (0, 0, 0) = o := ⟨_, rfl⟩
          obtain ⟨⟨t2, a2, x2⟩, ho2⟩ : ∃ o : Op3, l.getD j (0, 0, 0) = o := ⟨_, rfl⟩
          rw [ho] at c0 c1 c2
          rw [ho2] at d0 d1 d2
          simp only at c0 c1 c2 d0 d1 d2
          have HP : Hid (opAt l i = (t, a, x) ∧ opAt l j = (t2, a2, x2)) := ⟨ho, ho2⟩
          clear ho ho2
          have hkl := accTo_len l i j hl hi hj
          obtain ⟨n, hn⟩ : ∃ n, (accTo l i j).length = n := ⟨_, rfl⟩
          have HN : Hid ((accTo l i j).length = n) := hn
          rw [hn] at hown hkl
          have HOWN : Hid (wr.ownsRow w.heap.size 80 2 u3 n (flatE (accTo l i j))) := hown
          clear hn hown
          cases hq : oddB (t, a, x) (t2, a2, x2) with
          | false =>
            have HQ : Hid (oddB (opAt l i) (opAt l j) = false) := by show oddB (opAt l i) (opAt l j) = false; rw [HP.out.1, HP.out.2]; exact hq
            go_wp2_with fail
            go_region_with (go_at_call 62; refine (odd_any _ _ _ _ _ _ _).mono ?_; rintro e w' ⟨rfl, rfl⟩)
            all_goals
              go_wp2
              go_roundw
              case rel => exact ⟨j + 1, by omega, by omega, by go_num, by rw [accTo_miss HQ.out, HN.out]; exact ((HOWN.out.alloc _).alloc _).drew, ((hbel.alloc (by omega) _).alloc (by simp; omega) _).drew⟩
              case measure => simp [intOf]; omega
          | true =>
            have HQ : Hid (oddB (opAt l i) (opAt l j) = true) := by show oddB (opAt l i) (opAt l j) = true; rw [HP.out.1, HP.out.2]; exact hq
            go_wp2_with fail
            go_region_with (go_at_call 62; refine (odd_any _ _ _ _ _ _ _).mono ?_; rintro e w' ⟨rfl, rfl⟩)
            all_goals
              have HW : Hid (∃ W : World, W = ((wr.alloc (.cells #[.int .i64 t, .int .i64 a, .int .i64 x] 38)).alloc (.cells #[.int .i64 t2, .int .i64 a2, .int .i64 x2] 38)).drew) := ⟨_, rfl⟩
              obtain ⟨W, hW⟩ := HW.out
              have hownW : W.ownsRow w.heap.size 80 2 u3 n (flatE (accTo l i j)) := by rw [hW]; exact ((HOWN.out.alloc _).alloc _).drew
              have hbW : Below w.heap.size w W := by rw [hW]; exact ((hbel.alloc hsz _).alloc (by simp; omega) _).drew
              rw [← hW]
              clear HW hW
              have hszW := hbW.size
              go_wp2_with (at_builtin; refine wpList_append_own _ rfl (.tmp 28) (.tmp 32) 57 rfl w.heap.size 80 i0 (.agg #[.int .i64 0, .int .i64 0]) 2 16 Tryz.underlying57 HI.out.1 HI.out.2.1 HI.out.2.2.1 HI.out.2.2.2 rfl (by decide) u3 n (flatE (accTo l i j)) rfl (hownW.alloc _) ⟨W.heap.size, 0, none⟩ 1 1 (flatE [((i : Int), (j : Int))]) rfl rfl (one_edge W i j) (flatE_one _) (by unfold maxLen; omega) (by omega) (by simp; omega) ?_; intro v1 w1 hown1 hgr1 hnil1)
              have hB1 := (hbW.alloc hszW _).grown hgr1 (by simp; omega) (fun m hm => (hownW.lt m hm).1)
              go_roundw
              case rel => exact ⟨j + 1, by omega, by omega, by go_num, by rw [accTo_hit hij HQ.out, List.length_append, HN.out, flatE_append]; exact hown1, hB1⟩
              case measure => simp [intOf]; omega
        · have HJ : Hid (j = l.length) := by show j = l.length; omega
          have HOWN : Hid (wr.ownsRow w.heap.size 80 2 u3 (accTo l i j).length (flatE (accTo l i j))) := hown
          clear hown
          go_wp2
          go_roundw
          case rel => exact ⟨i + 1, by omega, by go_num, by rw [← accTo_last l i j HJ.out]; exact HOWN.out, hbel⟩
          case measure => simp [intOf]; omega
    · go_wp2
      go_ret
      have := HOWN.out
      exact ⟨_, rfl, by rw [show pairsL l = pairsTo l i by unfold pairsL; rw [show i = l.length by omega]]; exact this, hbel⟩
theorem pairs_any (l : List Op3) (v : Value) (w : World) (hI : IsOps w v l) (hl : l.length ≤ 40) :
    Calls Tryz.prog 41 #[v] w fun e w' => ∃ v', e = .returned v' ∧ IsEdges w' v' (pairsL l) ∧ Below w.heap.size w w' :=
  (pairs_own l v w hI hl).mono fun _ _ ⟨v', he, ho, hb⟩ => ⟨v', he, isEdges_own ho rfl, hb⟩
end Go.Proofs.YtmjjiehnjghndaaGreat

namespace Go.Proofs.YtmjjiehnjghndaaGreat
open Go.RowKit

theorem any_snoc {q : Edge2 → Bool} {l : List Edge2} {k : Nat} {e : Edge2} (h : l.take (k + 1) = l.take k ++ [e]) (h1 : (l.take k).any q = false) (h2 : q e = false) : (l.take (k + 1)).any q = false := by
  rw [h, List.any_append, h1]; simp [h2]
theorem any_hit {q : Edge2 → Bool} {l : List Edge2} {e : Edge2} (h : e ∈ l) (h2 : q e = true) : l.any q = true := List.any_eq_true.2 ⟨e, h, h2⟩

set_option maxHeartbeats 4000000 in
theorem index_edges (l : List Edge2) (v : Value) (q : Edge2 → Bool) (p1 p2 p3 : Value) (w : World) (hI : IsEdges w v l) (hlen : l.length ≤ 140737488351)
    (hp : ∀ W : World, Below w.heap.size w W → ∀ e ∈ l, Calls Tryz.prog 42 #[.agg #[.int .i64 e.1, .int .i64 e.2], p1, p2, p3] W fun r w' => r = .returned (.bool (q e)) ∧ Below W.heap.size W w') :
    Calls Tryz.prog 63 #[v, .func (.func 42) #[] #[p1, p2, p3]] w fun r w' => ∃ n : Int, r = .returned (.int .i64 n) ∧ (decide (0 ≤ n) = l.any q) ∧ Below w.heap.size w w' := by
  obtain ⟨ad, b, off, cap, rfl, ha, _, hbB, hops⟩ := hI
  have HO : Hid (∀ W, Below w.heap.size w W → ∀ k, k < l.length → ad = some ⟨b, off, none⟩ ∧ W.cell? ⟨b, off + k * 2, none⟩ = some (.int .i64 (l.getD k (0, 0)).1) ∧ W.cell? ⟨b, off + k * 2 + 1, none⟩ = some (.int .i64 (l.getD k (0, 0)).2)) := fun W hW k hk => ⟨ha (by omega), (hops.below hW hbB) k hk⟩
  have HP : Hid (∀ W : World, Below w.heap.size w W → ∀ e ∈ l, Calls Tryz.prog 42 #[.agg #[.int .i64 e.1, .int .i64 e.2], p1, p2, p3] W fun r w' => r = .returned (.bool (q e)) ∧ Below W.heap.size W w') := hp
  clear ha hbB hops hp
  go_enter Tryz.func63, Tryz.ntmps63
  go_wp2
  go_loopw [8] (fun v8 wr => ∃ k : Nat, k ≤ l.length ∧ v8 = .int .i64 k ∧ (l.take k).any q = false ∧ Below w.heap.size w wr) (fun v8 _ => l.length - (intOf v8).toNat)
  case atStart => exact ⟨0, Nat.zero_le _, rfl, by simp, Below.refl _ _⟩
  case round =>
    obtain ⟨k, hk, rfl, hno, hbel⟩ := hrel
    have HNO : Hid ((l.take k).any q = false) := hno
    clear hno
    have hsz := hbel.size
    by_cases hlt : k < l.length
    · obtain ⟨rfl, c0, c1⟩ := HO.out wr hbel k hlt
      obtain ⟨⟨t, a⟩, ho⟩ : ∃ o : Edge2, l.getD k (0, 0) = o := ⟨_, rfl⟩
      rw [ho] at c0 c1
      have hmem : (t, a) ∈ l := by rw [← ho]; simp [List.getD, List.getElem?_eq_getElem hlt]
      have HT : Hid (l.take (k + 1) = l.take k ++ [(t, a)]) := by
        show l.take (k + 1) = l.take k ++ [(t, a)]
        rw [List.take_succ_eq_append_getElem hlt, ← ho]; simp [List.getD, List.getElem?_eq_getElem hlt]
      have HM : Hid ((t, a) ∈ l) := hmem
      clear ho HO hmem
      simp only at c0 c1
      cases hq : q (t, a) with
      | false =>
        have HQ : Hid (q (t, a) = false) := hq
        have HC : Hid (Calls Tryz.prog 42 #[.agg #[.int .i64 t, .int .i64 a], p1, p2, p3] wr fun r w' => r = .returned (.bool false) ∧ Below wr.heap.size wr w') := hq ▸ HP.out wr hbel _ HM.out
        clear hq
        go_wp2_with (go_at_call 42; refine HC.out.mono ?_; rintro e w1 ⟨rfl, hb1⟩)
        go_roundw
        case rel => exact ⟨k + 1, by omega, by go_num, any_snoc HT.out HNO.out HQ.out, hbel.trans (hb1.mono hsz)⟩
        case measure => simp [intOf]; omega
      | true =>
        have HQ : Hid (q (t, a) = true) := hq
        have HC : Hid (Calls Tryz.prog 42 #[.agg #[.int .i64 t, .int .i64 a], p1, p2, p3] wr fun r w' => r = .returned (.bool true) ∧ Below wr.heap.size wr w') := hq ▸ HP.out wr hbel _ HM.out
        clear hq
        go_wp2_with (go_at_call 42; refine HC.out.mono ?_; rintro e w1 ⟨rfl, hb1⟩)
        go_ret
        exact ⟨_, rfl, by rw [any_hit HM.out HQ.out]; simp, hbel.trans (hb1.mono hsz)⟩
    · go_wp2
      go_ret
      refine ⟨_, rfl, ?_, hbel⟩
      have h0 := HNO.out
      rw [List.take_of_length_le (by omega)] at h0
      rw [h0]; simp
theorem contains_edges (l : List Edge2) (v : Value) (q : Edge2 → Bool) (p1 p2 p3 : Value) (w : World) (hI : IsEdges w v l) (hlen : l.length ≤ 140737488351)
    (hp : ∀ W : World, Below w.heap.size w W → ∀ e ∈ l, Calls Tryz.prog 42 #[.agg #[.int .i64 e.1, .int .i64 e.2], p1, p2, p3] W fun r w' => r = .returned (.bool (q e)) ∧ Below W.heap.size W w') :
    Calls Tryz.prog 43 #[v, .func (.func 42) #[] #[p1, p2, p3]] w fun r w' => r = .returned (.bool (l.any q)) ∧ Below w.heap.size w w' := by
  have HC : Hid (Calls Tryz.prog 63 #[v, .func (.func 42) #[] #[p1, p2, p3]] w fun r w' => ∃ n : Int, r = .returned (.int .i64 n) ∧ (decide (0 ≤ n) = l.any q) ∧ Below w.heap.size w w') := index_edges l v q p1 p2 p3 w hI hlen hp
  clear hp hI
  go_enter Tryz.func43, Tryz.ntmps43
  go_wp2_with (go_at_call 63; refine HC.out.mono ?_; rintro e w1 ⟨n, rfl, hn, hb1⟩)
  all_goals go_ret
  all_goals exact ⟨ret_bool (by simp_all), hb1⟩
end Go.Proofs.YtmjjiehnjghndaaGreat
