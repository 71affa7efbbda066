/-
  PROVED HERE: laneref1.Done gives, of a right list, the ops of the deals that commit; laneref1.Of gives a deal's ops, of any list; old memory stays as it was.
  Conditions: none.
  PROVED HERE: laneref1.Edges gives, of a right list, the edges between deals that commit, put in one by one. Old memory stays as it was.
  Conditions: none.
-/
import Derived.Test.YtjaeaanpbdmfgabGreatDoorRefHist
import Derived.Test.YtjaeaanpbdmfgabGreatDoorEnd
import Derived.Test.YtjaeaanpbdmfgabGreatDoorMgak
import Derived.Test.YtjaeaanpbdmfgabGreatDoorMgbm
import Derived.Test.YtjaeaanpbdmfgabGreatDoorRefAdd
namespace Go.Proofs.YtjaeaanpbdmfgabGreatDoor
open Go.RowKit

theorem filter_keep {q : Op3 → Bool} {l : List Op3} {k : Nat} {o : Op3} (h : l.take (k + 1) = l.take k ++ [o]) (hq : q o = true) : (l.take (k + 1)).filter q = (l.take k).filter q ++ [o] := by
  rw [h, List.filter_append]; simp [hq]
theorem filter_drop {q : Op3 → Bool} {l : List Op3} {k : Nat} {o : Op3} (h : l.take (k + 1) = l.take k ++ [o]) (hq : q o = false) : (l.take (k + 1)).filter q = (l.take k).filter q := by
  rw [h, List.filter_append]; simp [hq]
theorem end_v (l : List Op3) (v : Value) (t : Int) (w : World) (hI : IsOps w v l) (hlen : l.length ≤ 140737488351232) :
    Calls Tryz.prog 27 #[v, .int .i64 t, .int .i64 l.length] w fun e w' => e = .returned (.int .i64 (endOf l t)) ∧ w' = w := by
  obtain ⟨ad, b, off, cap, rfl, ha, _, hbB, hops⟩ := hI
  exact end_any l ad b off cap t w hlen ha hops
theorem endOf_comm (l : List Op3) (t : Nat) (h1 : ∀ o ∈ l, isOpB o = true) (h2 : Calm l) : (endOf l t == 3) = commIn l t := by
  induction l with
  | nil => rfl
  | cons a r ih =>
    obtain ⟨k1, k2⟩ := List.pairwise_cons.1 h2
    have ha := isOp_ends (h1 a (List.mem_cons_self ..))
    have ih' := ih (fun o ho => h1 o (List.mem_cons_of_mem _ ho)) k2
    have e : endOf (a :: r) t = if a.1 = (t : Int) ∧ 3 ≤ a.2.1 then a.2.1 else endOf r t := rfl
    have e2 : commIn (a :: r) t = ((a.1 == (t : Int) && a.2.1 == 3) || commIn r t) := by simp [commIn]
    rw [e, e2]
    by_cases hc : a.1 = (t : Int) ∧ 3 ≤ a.2.1
    · rw [if_pos hc]
      have hn : commIn r t = false := by
        simp only [commIn, List.any_eq_false]
        intro o ho hq
        simp at hq
        exact k1 o ho ⟨by rw [hc.1, hq.1], by rw [ha]; simp [hc.2]⟩
      rw [hn]; simp [hc.1]
    · rw [if_neg hc, ih']
      have : (a.1 == (t : Int) && a.2.1 == 3) = false := by
        by_cases h3 : a.1 = (t : Int)
        · have : ¬ a.2.1 = 3 := fun h4 => hc ⟨h3, by omega⟩
          simp [this]
        · simp [h3]
      rw [this]; simp

set_option maxHeartbeats 4000000 in
theorem refOf_own (l : List Op3) (v : Value) (tx : Int) (w : World) (hI : IsOps w v l) (hlen : l.length ≤ 140737488351) :
    Calls Tryz.prog 28 #[v, .int .i64 tx] w fun e w' => ∃ v', e = .returned v' ∧ w'.ownsRow w.heap.size 37 3 v' (l.filter (fun o : Op3 => o.1 == tx)).length (flat (l.filter (fun o : Op3 => o.1 == tx))) ∧ Below w.heap.size w w' := by
  obtain ⟨ad, b, off, cap, rfl, ha, hn, hbB, hops⟩ := hI
  have HI0 : Hid (IsOps w (.slice ad l.length cap) l) := ⟨ad, b, off, cap, rfl, ha, hn, hbB, hops⟩
  clear hn
  obtain ⟨i0, hi, hz0, hs0, hy0⟩ := info_parts infoOp
  have HI : Hid (Tryz.prog.info? 37 = some i0 ∧ i0.zero = some (.agg #[.int .i64 0, .int .i64 0, .int .i64 0]) ∧ i0.size = 3 ∧ i0.bytes = 24) := ⟨hi, hz0, hs0, hy0⟩
  clear hi hz0 hs0 hy0
  go_enter Tryz.func28, Tryz.ntmps28
  go_wp2
  go_loopw [5, 6] (fun x1 x2 wr => ∃ k : Nat, k ≤ l.length ∧ x2 = .int .i64 k ∧ wr.ownsRow w.heap.size 37 3 x1 ((l.take k).filter (fun o : Op3 => o.1 == tx)).length (flat ((l.take k).filter (fun o : Op3 => o.1 == tx))) ∧ Below w.heap.size w wr) (fun _ x2 _ => l.length - (intOf x2).toNat)
  case atStart => exact ⟨0, Nat.zero_le _, rfl, World.ownsRow_nil _ _ _ _, Below.refl _ _⟩
  case round =>
    obtain ⟨k, hk, rfl, hown, hbel⟩ := hrel
    have hsz := hbel.size
    by_cases hlt : k < l.length
    · obtain rfl := ha (by omega)
      have hb1 : b < w.heap.size := by
        rcases hbB with h | h
        · exact h
        · subst h; simp at hlt
      obtain ⟨c0, c1, c2⟩ := (hops.below hbel (.inl hb1)) k hlt
      obtain ⟨⟨t, a, i⟩, ho⟩ : ∃ o : Op3, l.getD k (0, 0, 0) = o := ⟨_, rfl⟩
      rw [ho] at c0 c1 c2
      have hmem : (t, a, i) ∈ l := by rw [← ho]; simp [List.getD, List.getElem?_eq_getElem hlt]
      have HT : Hid (l.take (k + 1) = l.take k ++ [(t, a, i)]) := by
        show l.take (k + 1) = l.take k ++ [(t, a, i)]
        rw [List.take_succ_eq_append_getElem hlt, ← ho]; simp [List.getD, List.getElem?_eq_getElem hlt]
      have hkl := take_len (fun o : Op3 => o.1 == tx) l k
      skip
      clear ho hops ha hbB hmem
      simp only at c0 c1 c2
      obtain ⟨n, hn⟩ : ∃ n, ((l.take k).filter (fun o : Op3 => o.1 == tx)).length = n := ⟨_, rfl⟩
      have HN : Hid (((l.take k).filter (fun o : Op3 => o.1 == tx)).length = n) := hn
      rw [hn] at hown hkl
      have HOWN : Hid (wr.ownsRow w.heap.size 37 3 u5 n (flat ((l.take k).filter (fun o : Op3 => o.1 == tx)))) := hown
      clear hn hown
      cases hq : (fun o : Op3 => o.1 == tx) (t, a, i) with
      | false =>
        have HQ : Hid ((fun o : Op3 => o.1 == tx) (t, a, i) = false) := hq
        have hq' : (t == tx) = false := hq
        clear hq
        go_wp2_with (fail)
        go_roundw
        case rel => exact ⟨k + 1, by omega, by go_num, by rw [filter_drop (q := (fun o : Op3 => o.1 == tx)) HT.out HQ.out, HN.out]; exact HOWN.out, hbel⟩
        case measure => simp [intOf]; omega
      | true =>
        have HQ : Hid ((fun o : Op3 => o.1 == tx) (t, a, i) = true) := hq
        have hq' : (t == tx) = true := hq
        clear hq
        go_wp2_with (first | (fail) | (at_builtin; refine wpList_append_own _ rfl (.tmp 20) (.tmp 25) 22 rfl w.heap.size 37 i0 (.agg #[.int .i64 0, .int .i64 0, .int .i64 0]) 3 24 Tryz.underlying22 HI.out.1 HI.out.2.1 HI.out.2.2.1 HI.out.2.2.2 rfl (by decide) u5 n (flat ((l.take k).filter (fun o : Op3 => o.1 == tx))) rfl (HOWN.out.alloc _) ⟨wr.heap.size, 0, none⟩ 1 1 (flat [(t, a, i)]) rfl rfl (one_at wr t a i) (flat_one _) (by unfold maxLen; omega) (by omega) (by simp; omega) ?_; intro v1 w1 hown1 hgr1 hnil1))
        have hB1 := (hbel.alloc hsz _).grown hgr1 (by simp; omega) (fun m hm => (HOWN.out.lt m hm).1)
        go_roundw
        case rel => exact ⟨k + 1, by omega, by go_num, by rw [filter_keep (q := (fun o : Op3 => o.1 == tx)) HT.out HQ.out, List.length_append, HN.out, flat_append]; exact hown1, hB1⟩
        case measure => simp [intOf]; omega
    · go_wp2
      go_ret
      exact ⟨_, rfl, by rw [List.take_of_length_le (by omega)] at hown; exact hown, hbel⟩
theorem refOf_any (l : List Op3) (v : Value) (tx : Int) (w : World) (hI : IsOps w v l) (hlen : l.length ≤ 140737488351) :
    Calls Tryz.prog 28 #[v, .int .i64 tx] w fun e w' => ∃ v', e = .returned v' ∧ IsOps w' v' (l.filter (fun o : Op3 => o.1 == tx)) ∧ Below w.heap.size w w' :=
  (refOf_own l v tx w hI hlen).mono fun _ _ ⟨v', he, ho, hb⟩ => ⟨v', he, isOps_own ho rfl, hb⟩

/-- A slice value that is no longer than its capacity. -/
def Room (v : Value) : Prop := ∃ ad n c, v = .slice ad n c ∧ n ≤ c
theorem own_room {w : World} {base e s n : Nat} {v : Value} {xs : List Value} (h : w.ownsRow base e s v n xs) : Room v := by
  obtain ⟨_, ⟨hv, hd⟩ | ⟨g, cap, cur, hv, hb, hg, hn, _⟩⟩ := h
  · exact ⟨none, 0, 0, hv, Nat.le_refl _⟩
  · exact ⟨_, _, _, hv, hn⟩
set_option maxHeartbeats 4000000 in
theorem refDone_room (l : List Op3) (v : Value)  (w : World) (hI : IsOps w v l) (hc : (chk l).2 = 0) :
    Calls Tryz.prog 7 #[v] w fun e w' => ∃ v', e = .returned v' ∧ IsOps w' v' (l.filter (fun o : Op3 => commIn l o.1.toNat)) ∧ Room v' ∧ Below w.heap.size w w' := by
  obtain ⟨ad, b, off, cap, rfl, ha, hn, hbB, hops⟩ := hI
  have HI0 : Hid (IsOps w (.slice ad l.length cap) l) := ⟨ad, b, off, cap, rfl, ha, hn, hbB, hops⟩
  clear hn
  obtain ⟨i0, hi, hz0, hs0, hy0⟩ := info_parts infoOp
  have HI : Hid (Tryz.prog.info? 37 = some i0 ∧ i0.zero = some (.agg #[.int .i64 0, .int .i64 0, .int .i64 0]) ∧ i0.size = 3 ∧ i0.bytes = 24) := ⟨hi, hz0, hs0, hy0⟩
  clear hi hz0 hs0 hy0
  go_enter Tryz.func7, Tryz.ntmps7
  go_wp2
  go_loopw [3, 4] (fun x1 x2 wr => ∃ k : Nat, k ≤ l.length ∧ x2 = .int .i64 k ∧ wr.ownsRow w.heap.size 37 3 x1 ((l.take k).filter (fun o : Op3 => commIn l o.1.toNat)).length (flat ((l.take k).filter (fun o : Op3 => commIn l o.1.toNat))) ∧ Below w.heap.size w wr) (fun _ x2 _ => l.length - (intOf x2).toNat)
  case atStart => exact ⟨0, Nat.zero_le _, rfl, World.ownsRow_nil _ _ _ _, Below.refl _ _⟩
  case round =>
    obtain ⟨k, hk, rfl, hown, hbel⟩ := hrel
    have hsz := hbel.size
    by_cases hlt : k < l.length
    · obtain rfl := ha (by omega)
      have hb1 : b < w.heap.size := by
        rcases hbB with h | h
        · exact h
        · subst h; simp at hlt
      obtain ⟨c0, c1, c2⟩ := (hops.below hbel (.inl hb1)) k hlt
      obtain ⟨⟨t, a, i⟩, ho⟩ : ∃ o : Op3, l.getD k (0, 0, 0) = o := ⟨_, rfl⟩
      rw [ho] at c0 c1 c2
      have hmem : (t, a, i) ∈ l := by rw [← ho]; simp [List.getD, List.getElem?_eq_getElem hlt]
      have HT : Hid (l.take (k + 1) = l.take k ++ [(t, a, i)]) := by
        show l.take (k + 1) = l.take k ++ [(t, a, i)]
        rw [List.take_succ_eq_append_getElem hlt, ← ho]; simp [List.getD, List.getElem?_eq_getElem hlt]
      have hkl := take_len (fun o : Op3 => commIn l o.1.toNat) l k
      have hl40 := chk_len hc
      have htx := isOp_tx (chk_ops hc _ hmem)
      have HE : Hid ((endOf l t == 3) = commIn l t.toNat) := by
        have := endOf_comm l t.toNat (chk_ops hc) ((chk_iff l).1 hc).2.2
        show (endOf l t == 3) = commIn l t.toNat
        rw [← this, show ((t.toNat : Nat) : Int) = t by omega]
      have HIk : Hid (IsOps wr (.slice (some ⟨b, off, none⟩) l.length cap) l) := HI0.out.below hbel (Nat.le_refl _)
      clear ho hops ha hbB hmem
      simp only at c0 c1 c2
      obtain ⟨n, hn⟩ : ∃ n, ((l.take k).filter (fun o : Op3 => commIn l o.1.toNat)).length = n := ⟨_, rfl⟩
      have HN : Hid (((l.take k).filter (fun o : Op3 => commIn l o.1.toNat)).length = n) := hn
      rw [hn] at hown hkl
      have HOWN : Hid (wr.ownsRow w.heap.size 37 3 u3 n (flat ((l.take k).filter (fun o : Op3 => commIn l o.1.toNat)))) := hown
      clear hn hown
      cases hq : (fun o : Op3 => commIn l o.1.toNat) (t, a, i) with
      | false =>
        have HQ : Hid ((fun o : Op3 => commIn l o.1.toNat) (t, a, i) = false) := hq
        have hq' : (endOf l t == 3) = false := HE.out.trans hq
        clear hq
        go_wp2_with (go_at_call 27; refine (end_v l _ t _ HIk.out (by omega)).mono ?_; rintro e w9 ⟨rfl, hw9⟩; rw [hw9]; clear hw9)
        go_roundw
        case rel => exact ⟨k + 1, by omega, by go_num, by rw [filter_drop (q := (fun o : Op3 => commIn l o.1.toNat)) HT.out HQ.out, HN.out]; exact HOWN.out, hbel⟩
        case measure => simp [intOf]; omega
      | true =>
        have HQ : Hid ((fun o : Op3 => commIn l o.1.toNat) (t, a, i) = true) := hq
        have hq' : (endOf l t == 3) = true := HE.out.trans hq
        clear hq
        go_wp2_with (first | (go_at_call 27; refine (end_v l _ t _ HIk.out (by omega)).mono ?_; rintro e w9 ⟨rfl, hw9⟩; rw [hw9]; clear hw9) | (at_builtin; refine wpList_append_own _ rfl (.tmp 21) (.tmp 26) 22 rfl w.heap.size 37 i0 (.agg #[.int .i64 0, .int .i64 0, .int .i64 0]) 3 24 Tryz.underlying22 HI.out.1 HI.out.2.1 HI.out.2.2.1 HI.out.2.2.2 rfl (by decide) u3 n (flat ((l.take k).filter (fun o : Op3 => commIn l o.1.toNat))) rfl (HOWN.out.alloc _) ⟨wr.heap.size, 0, none⟩ 1 1 (flat [(t, a, i)]) rfl rfl (one_at wr t a i) (flat_one _) (by unfold maxLen; omega) (by omega) (by simp; omega) ?_; intro v1 w1 hown1 hgr1 hnil1))
        have hB1 := (hbel.alloc hsz _).grown hgr1 (by simp; omega) (fun m hm => (HOWN.out.lt m hm).1)
        go_roundw
        case rel => exact ⟨k + 1, by omega, by go_num, by rw [filter_keep (q := (fun o : Op3 => commIn l o.1.toNat)) HT.out HQ.out, List.length_append, HN.out, flat_append]; exact hown1, hB1⟩
        case measure => simp [intOf]; omega
    · go_wp2
      go_ret
      exact ⟨_, rfl, by rw [List.take_of_length_le (by omega)] at hown; exact isOps_own hown rfl, own_room hown, hbel⟩
theorem refDone_any (l : List Op3) (v : Value) (w : World) (hI : IsOps w v l) (hc : (chk l).2 = 0) :
    Calls Tryz.prog 7 #[v] w fun e w' => ∃ v', e = .returned v' ∧ IsOps w' v' (l.filter (fun o : Op3 => commIn l o.1.toNat)) ∧ Below w.heap.size w w' :=
  (refDone_room l v w hI hc).mono fun _ _ ⟨v', h1, h2, _, h3⟩ => ⟨v', h1, h2, h3⟩
end Go.Proofs.YtjaeaanpbdmfgabGreatDoor

namespace Go.Proofs.YtjaeaanpbdmfgabGreatDoor
open Go.RowKit

theorem putAll_hit {d : List Op3} {i k : Nat} (hik : i < k) (h : oddB (opAt d i) (opAt d k) = true) : putAll d (accTo d i (k + 1)) = addE (putAll d (accTo d i k)) ((opAt d i).1, (opAt d k).1) := by
  rw [accTo_hit hik h, putAll_snoc]; simp [edgeOf]
theorem putAll_le (d : List Op3) (i k : Nat) (hl : d.length ≤ 40) (hi : i ≤ d.length) (hk : k ≤ d.length) : (putAll d (accTo d i k)).length ≤ 1640 := by
  have h1 := putAll_len d (accTo d i k) []
  have h2 := accTo_len d i k hl hi hk
  unfold putAll
  simp at h1
  omega

set_option maxHeartbeats 8000000 in
theorem refEdges_any (l : List Op3) (v : Value) (w : World) (hI : IsOps w v l) (hc : (chk l).2 = 0) :
    Calls Tryz.prog 34 #[v] w fun e w' => ∃ v', e = .returned v' ∧ IsEdges w' v' (putAll (doneL l) (pairsL (doneL l))) ∧ Below w.heap.size w w' := by
  go_enter Tryz.func34, Tryz.ntmps34
  go_wp2_with fail
  refine (refDone_any l _ _ hI hc).mono ?_
  rintro e w1 ⟨v1, rfl, hI1', hb1⟩
  have hI1 : IsOps w1 v1 (doneL l) := hI1'
  have hcd := chk_done hc
  obtain ⟨d, hd⟩ : ∃ d, doneL l = d := ⟨_, rfl⟩
  have HD : Hid (doneL l = d) := hd
  rw [hd] at hI1 hcd
  have hl := chk_len hcd
  have HOP : Hid (∀ o ∈ d, isOpB o = true) := chk_ops hcd
  clear hd hI1' hcd hc hI
  obtain ⟨ad, b, off, cap, rfl, ha, _, hbB, hops⟩ := hI1
  have HO : Hid (∀ W, Below w1.heap.size w1 W → ∀ k, k < d.length → ad = some ⟨b, off, none⟩ ∧ W.cell? ⟨b, off + k * 3, none⟩ = some (.int .i64 (opAt d k).1) ∧ W.cell? ⟨b, off + k * 3 + 1, none⟩ = some (.int .i64 (opAt d k).2.1) ∧ W.cell? ⟨b, off + k * 3 + 2, none⟩ = some (.int .i64 (opAt d k).2.2)) := fun W hW k hk => ⟨ha (by omega), (hops.below hW hbB) k hk⟩
  clear ha hbB hops
  go_wp2_with fail
  go_loopw [3, 4] (fun v3 v4 wr => ∃ i : Nat, i ≤ d.length ∧ v4 = .int .i64 i ∧ IsEdges wr v3 (putAll d (pairsTo d i)) ∧ Roomy v3 ∧ Below w1.heap.size w1 wr) (fun _ v4 _ => d.length - (intOf v4).toNat)
  case atStart => exact ⟨0, Nat.zero_le _, rfl, isEdges_nil _, ⟨none, 0, 0, rfl, Nat.le_refl _⟩, Below.refl _ _⟩
  case round =>
    obtain ⟨i, hi, rfl, hE, hR, hbel⟩ := hrel
    have HE : Hid (IsEdges wr u3 (putAll d (pairsTo d i)) ∧ Roomy u3) := ⟨hE, hR⟩
    clear hE hR
    by_cases hlt : i < d.length
    · go_wp2
      go_loopw [3, 5] (fun v3 v5 wr => ∃ j : Nat, i < j ∧ j ≤ d.length ∧ v5 = .int .i64 j ∧ IsEdges wr v3 (putAll d (accTo d i j)) ∧ Roomy v3 ∧ Below w1.heap.size w1 wr) (fun _ v5 _ => d.length - (intOf v5).toNat)
      case atStart => exact ⟨i + 1, by omega, by omega, by go_num, by rw [accTo_first]; exact HE.out.1, HE.out.2, hbel⟩
      case round =>
        clear hbel HE
        obtain ⟨j, hij, hj, rfl, hE, hR, hbel⟩ := hrel
        have HE : Hid (IsEdges wr u3 (putAll d (accTo d i j)) ∧ Roomy u3) := ⟨hE, hR⟩
        clear hE hR
        have hsz := hbel.size
        by_cases hjl : j < d.length
        · obtain ⟨hadr, c0, c1, c2⟩ := HO.out wr hbel i hlt
          subst hadr
          obtain ⟨_, d0, d1, d2⟩ := HO.out wr hbel j hjl
          have hbl : b < wr.heap.size := World.block_lt_of_cell? wr _ c0
          obtain ⟨B, hB1, hB2⟩ : ∃ B, B ≤ wr.heap.size ∧ wr.heap.size ≤ B := ⟨_, Nat.le_refl _, Nat.le_refl _⟩
          have hne : Nonempty (Later B wr) := ⟨⟨wr, Below.refl _ _⟩⟩
          have HODD0 : ∀ y : Later B wr, Calls Tryz.prog 61 #[.agg #[.int .i64 (opAt d i).1, .int .i64 (opAt d i).2.1, .int .i64 (opAt d i).2.2], .agg #[.int .i64 (opAt d j).1, .int .i64 (opAt d j).2.1, .int .i64 (opAt d j).2.2]] y.W fun e w' => e = .returned (.bool (oddB (opAt d i) (opAt d j))) ∧ ∃ z : Later B wr, w' = z.W := fun y => Later.at y hB1 (refOdds_below _ _ (HOP.out _ (opAt_mem hlt)) (HOP.out _ (opAt_mem hjl)) y.W)
          obtain ⟨⟨t, a, x⟩, ho⟩ : ∃ o : Op3, opAt d i = o := ⟨_, rfl⟩
          obtain ⟨⟨t2, a2, x2⟩, ho2⟩ : ∃ o : Op3, opAt d j = o := ⟨_, rfl⟩
          have HP : Hid (opAt d i = (t, a, x) ∧ opAt d j = (t2, a2, x2)) := ⟨ho, ho2⟩
          rw [ho] at c0 c1 c2
          rw [ho2] at d0 d1 d2
          rw [ho, ho2] at HODD0
          simp only at c0 c1 c2 d0 d1 d2 HODD0
          clear ho ho2
          have e0 : ∀ y : Later B wr, y.W.cell? ⟨b, off + i * 3, none⟩ = some (.int .i64 t) := fun y => (y.h.cell (p := ⟨b, off + i * 3, none⟩) (by simp; omega)).trans c0
          have e1 : ∀ y : Later B wr, y.W.cell? ⟨b, off + i * 3 + 1, none⟩ = some (.int .i64 a) := fun y => (y.h.cell (p := ⟨b, off + i * 3 + 1, none⟩) (by simp; omega)).trans c1
          have e2 : ∀ y : Later B wr, y.W.cell? ⟨b, off + i * 3 + 2, none⟩ = some (.int .i64 x) := fun y => (y.h.cell (p := ⟨b, off + i * 3 + 2, none⟩) (by simp; omega)).trans c2
          have g0 : ∀ y : Later B wr, y.W.cell? ⟨b, off + j * 3, none⟩ = some (.int .i64 t2) := fun y => (y.h.cell (p := ⟨b, off + j * 3, none⟩) (by simp; omega)).trans d0
          have g1 : ∀ y : Later B wr, y.W.cell? ⟨b, off + j * 3 + 1, none⟩ = some (.int .i64 a2) := fun y => (y.h.cell (p := ⟨b, off + j * 3 + 1, none⟩) (by simp; omega)).trans d1
          have g2 : ∀ y : Later B wr, y.W.cell? ⟨b, off + j * 3 + 2, none⟩ = some (.int .i64 x2) := fun y => (y.h.cell (p := ⟨b, off + j * 3 + 2, none⟩) (by simp; omega)).trans d2
          have HK : Hid (∀ y : Later B wr, y.W.cell? ⟨b, off + i * 3, none⟩ = some (.int .i64 t) ∧ y.W.cell? ⟨b, off + j * 3, none⟩ = some (.int .i64 t2)) := fun y => ⟨e0 y, g0 y⟩
          clear c0 c1 c2 d0 d1 d2
          cases hq : oddB (t, a, x) (t2, a2, x2) with
          | false =>
            have HQ : Hid (oddB (opAt d i) (opAt d j) = false) := by show oddB (opAt d i) (opAt d j) = false; rw [HP.out.1, HP.out.2]; exact hq
            rw [hq] at HODD0
            have HODD : Hid (∀ y : Later B wr, Calls Tryz.prog 61 #[.agg #[.int .i64 t, .int .i64 a, .int .i64 x], .agg #[.int .i64 t2, .int .i64 a2, .int .i64 x2]] y.W fun e w' => e = .returned (.bool false) ∧ ∃ z : Later B wr, w' = z.W) := HODD0
            clear HODD0
            go_wp2_with fail
            refine region_later B (by kernel_rfl) (by kernel_rfl) ?_
            repeat (first | go_big_quiet_skip | (go_big_quiet_want; go_big_quiet_op; first | go_big_quiet_on | (refine ⟨_, fun y => HODD.out y, ?_⟩; go_big_quiet_on)))
            refine wpQuiet_nil ?_
            intro W hW
            obtain ⟨y, rfl⟩ := hW
            go_wp2
            go_roundw
            case rel => exact ⟨j + 1, by omega, by omega, by go_num, by rw [accTo_miss HQ.out]; exact HE.out.1.below y.h hB2, HE.out.2, hbel.trans (y.h.mono (by omega))⟩
            case measure => simp [intOf]; omega
          | true =>
            have HQ : Hid (oddB (opAt d i) (opAt d j) = true) := by show oddB (opAt d i) (opAt d j) = true; rw [HP.out.1, HP.out.2]; exact hq
            rw [hq] at HODD0
            have HODD : Hid (∀ y : Later B wr, Calls Tryz.prog 61 #[.agg #[.int .i64 t, .int .i64 a, .int .i64 x], .agg #[.int .i64 t2, .int .i64 a2, .int .i64 x2]] y.W fun e w' => e = .returned (.bool true) ∧ ∃ z : Later B wr, w' = z.W) := HODD0
            clear HODD0
            go_wp2_with fail
            refine region_later B (by kernel_rfl) (by kernel_rfl) ?_
            repeat (first | go_big_quiet_skip | (go_big_quiet_want; go_big_quiet_op; first | go_big_quiet_on | (refine ⟨_, fun y => HODD.out y, ?_⟩; go_big_quiet_on)))
            refine wpQuiet_nil ?_
            intro W hW
            obtain ⟨y, hy⟩ := hW
            have hbWy : Below B wr W := by rw [hy]; exact y.h
            have k0 : W.cell? ⟨b, off + i * 3, none⟩ = some (.int .i64 t) := by rw [hy]; exact (HK.out y).1
            have k1 : W.cell? ⟨b, off + j * 3, none⟩ = some (.int .i64 t2) := by rw [hy]; exact (HK.out y).2
            have hEW : IsEdges W u3 (putAll d (accTo d i j)) := HE.out.1.below hbWy hB2
            have hb1W : Below w1.heap.size w1 W := hbel.trans (hbWy.mono (by omega))
            have hple := putAll_le d i j hl hi hj
            have HADD : Hid (∀ W', Below W.heap.size W W' → Calls Tryz.prog 62 #[u3, .agg #[.int .i64 t, .int .i64 t2]] W' fun e w' => ∃ v', e = .returned v' ∧ IsEdges w' v' (addE (putAll d (accTo d i j)) (t, t2)) ∧ Roomy v' ∧ Below W'.heap.size W' w') := fun W' hW' => refAdd_any _ t t2 u3 W' (hEW.below hW' (Nat.le_refl _)) HE.out.2 (by omega)
            clear hy e0 e1 e2 g0 g1 g2 HK hne HODD hB1 hB2 hbWy hEW hple y hbel
            go_wp2_with fail
            go_region_with (go_at_call 62; refine (HADD.out W.drew (Below.refl _ W).drew).mono ?_; rintro e w' ⟨v', rfl, hE', hR', hb'⟩)
            all_goals
              go_wp2
              go_roundw
              case rel => exact ⟨j + 1, by omega, by omega, by go_num, by rw [putAll_hit hij HQ.out, HP.out.1, HP.out.2]; exact hE', hR', hb1W.drew.trans (hb'.mono hb1W.size)⟩
              case measure => simp [intOf]; omega
        · have HJ : Hid (j = d.length) := by show j = d.length; omega
          go_wp2
          go_roundw
          case rel => exact ⟨i + 1, by omega, by go_num, by rw [← accTo_last d i j HJ.out]; exact HE.out.1, HE.out.2, hbel⟩
          case measure => simp [intOf]; omega
    · go_wp2
      go_ret
      refine ⟨_, rfl, ?_, hb1.trans (hbel.mono hb1.size)⟩
      rw [HD.out, show pairsL d = pairsTo d i by unfold pairsL; rw [show i = d.length by omega]]
      exact HE.out.1
end Go.Proofs.YtjaeaanpbdmfgabGreatDoor
