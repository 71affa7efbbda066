/-
  PROVED HERE: laneref1.End answers as the plain function endOf says of the first ops of a list; nothing turns.
  Conditions: none.
  PROVED HERE: laneref1.Done gives, of a right list, the ops of the deals that commit; laneref1.Of gives a deal's ops, of any list; old memory stays as it was.
  Conditions: none.
  (Of these, what the claim wants: the rest was left out.)
-/
import Derived.Test.YtmjjiehnjghndaaDoorMgah
import Derived.Test.YtmjjiehnjghndaaDoorMgap
import Derived.Test.YtmjjiehnjghndaaDoorMgak
namespace Go.Proofs.YtmjjiehnjghndaaDoor
open Go.RowKit

theorem ret_int {x y : Int} (h : x = y) : Ending.returned (.int .i64 x) = .returned (.int .i64 y) := by rw [h]
/-- The tail of a search: what is left behind k ops of which none is it. -/
theorem endOf_drop {l : List Op3} {k : Nat} {o : Op3} (hd : l.drop k = o :: l.drop (k + 1)) (t : Int) : endOf (l.drop k) t = if o.1 = t ∧ 3 ≤ o.2.1 then o.2.1 else endOf (l.drop (k + 1)) t := by
  rw [hd]; rfl

set_option maxHeartbeats 2000000 in
theorem end_any (l : List Op3) (ad : Option Addr) (b off cap : Nat) (t : Int) (w : World) (hlen : l.length ≤ 140737488351232) (ha : 0 < l.length → ad = some ⟨b, off, none⟩) (hops : OpsAt w b off l) :
    Calls Tryd.prog 31 #[.slice ad l.length cap, .int .i64 t, .int .i64 l.length] w fun e w' => e = .returned (.int .i64 (endOf l t)) ∧ w' = w := by
  go_enter Tryd.func31, Tryd.ntmps31
  go_wp2
  go_loop [7] (fun v7 => ∃ k : Nat, k ≤ l.length ∧ v7 = .int .i64 k ∧ endOf (l.drop k) t = endOf l t) (fun v7 => l.length - (intOf v7).toNat)
  case atStart => exact ⟨0, Nat.zero_le _, rfl, rfl⟩
  case round =>
    obtain ⟨k, hk, rfl, hck⟩ := hrel
    have HK : Hid (endOf (l.drop k) t = endOf l t) := hck
    clear hck
    by_cases hlt : k < l.length
    · obtain rfl := ha (by omega)
      obtain ⟨c0, c1, c2⟩ := hops k hlt
      obtain ⟨⟨x, a, i⟩, ho⟩ : ∃ o : Op3, l.getD k (0, 0, 0) = o := ⟨_, rfl⟩
      rw [ho] at c0 c1 c2
      have HD : Hid (l.drop k = (x, a, i) :: l.drop (k + 1)) := by
        show l.drop k = (x, a, i) :: l.drop (k + 1)
        rw [← ho]; simp [List.getD, List.getElem?_eq_getElem hlt]
      clear ho hops ha c2
      simp only at c0 c1
      by_cases hx : x = t
      · subst hx
        by_cases h3 : 3 ≤ a
        · go_wp2
          go_ret
          exact ⟨ret_int (by rw [← HK.out, endOf_drop HD.out]; simp [h3]), rfl⟩
        · go_wp2
          go_round
          case rel => exact ⟨k + 1, by omega, by go_num, by rw [← HK.out, endOf_drop HD.out, if_neg (by simp; omega)]⟩
          case measure => simp [intOf]; omega
      · have hx' : (x == t) = false := by simpa using hx
        go_wp2
        go_round
        case rel => exact ⟨k + 1, by omega, by go_num, by rw [← HK.out, endOf_drop HD.out, if_neg (by simp [hx])]⟩
        case measure => simp [intOf]; omega
    · go_wp2
      go_ret
      exact ⟨ret_int (by rw [← HK.out, List.drop_of_length_le (by omega)]; rfl), rfl⟩
end Go.Proofs.YtmjjiehnjghndaaDoor

namespace Go.Proofs.YtmjjiehnjghndaaDoor
open Go.RowKit

theorem filter_keep {q : Op3 → Bool} {l : List Op3} {k : Nat} {o : Op3} (h : l.take (k + 1) = l.take k ++ [o]) (hq : q o = true) : (l.take (k + 1)).filter q = (l.take k).filter q ++ [o] := by
  rw [h, List.filter_append]; simp [hq]
theorem filter_drop {q : Op3 → Bool} {l : List Op3} {k : Nat} {o : Op3} (h : l.take (k + 1) = l.take k ++ [o]) (hq : q o = false) : (l.take (k + 1)).filter q = (l.take k).filter q := by
  rw [h, List.filter_append]; simp [hq]
theorem end_v (l : List Op3) (v : Value) (t : Int) (w : World) (hI : IsOps w v l) (hlen : l.length ≤ 140737488351232) :
    Calls Tryd.prog 31 #[v, .int .i64 t, .int .i64 l.length] w fun e w' => e = .returned (.int .i64 (endOf l t)) ∧ w' = w := by
  obtain ⟨ad, b, off, cap, rfl, ha, _, hbB, hops⟩ := hI
  exact end_any l ad b off cap t w hlen ha hops
theorem endOf_comm (l : List Op3) (t : Nat) (h1 : ∀ o ∈ l, isOpB o = true) (h2 : Calm l) : (endOf l t == 3) = commIn l t := by
  induction l with
  | nil => rfl
  | cons a r ih =>
    obtain ⟨k1, k2⟩ := List.pairwise_cons.1 h2
    have ha := isOp_ends (h1 a (List.mem_cons_self ..))
    have ih' := ih (fun o ho => h1 o (List.mem_cons_of_mem _ ho)) k2
    have e : endOf (a :: r) t = if a.1 = (t : Int) ∧ 3 ≤ a.2.1 then a.2.1 else endOf r t := rfl
    have e2 : commIn (a :: r) t = ((a.1 == (t : Int) && a.2.1 == 3) || commIn r t) := by simp [commIn]
    rw [e, e2]
    by_cases hc : a.1 = (t : Int) ∧ 3 ≤ a.2.1
    · rw [if_pos hc]
      have hn : commIn r t = false := by
        simp only [commIn, List.any_eq_false]
        intro o ho hq
        simp at hq
        exact k1 o ho ⟨by rw [hc.1, hq.1], by rw [ha]; simp [hc.2]⟩
      rw [hn]; simp [hc.1]
    · rw [if_neg hc, ih']
      have : (a.1 == (t : Int) && a.2.1 == 3) = false := by
        by_cases h3 : a.1 = (t : Int)
        · have : ¬ a.2.1 = 3 := fun h4 => hc ⟨h3, by omega⟩
          simp [this]
        · simp [h3]
      rw [this]; simp

set_option maxHeartbeats 4000000 in
theorem refOf_own (l : List Op3) (v : Value) (tx : Int) (w : World) (hI : IsOps w v l) (hlen : l.length ≤ 140737488351) :
    Calls Tryd.prog 13 #[v, .int .i64 tx] w fun e w' => ∃ v', e = .returned v' ∧ w'.ownsRow w.heap.size 57 3 v' (l.filter (fun o : Op3 => o.1 == tx)).length (flat (l.filter (fun o : Op3 => o.1 == tx))) ∧ Below w.heap.size w w' := by
  obtain ⟨ad, b, off, cap, rfl, ha, hn, hbB, hops⟩ := hI
  have HI0 : Hid (IsOps w (.slice ad l.length cap) l) := ⟨ad, b, off, cap, rfl, ha, hn, hbB, hops⟩
  clear hn
  obtain ⟨i0, hi, hz0, hs0, hy0⟩ := info_parts infoOp
  have HI : Hid (Tryd.prog.info? 57 = some i0 ∧ i0.zero = some (.agg #[.int .i64 0, .int .i64 0, .int .i64 0]) ∧ i0.size = 3 ∧ i0.bytes = 24) := ⟨hi, hz0, hs0, hy0⟩
  clear hi hz0 hs0 hy0
  go_enter Tryd.func13, Tryd.ntmps13
  go_wp2
  go_loopw [5, 6] (fun x1 x2 wr => ∃ k : Nat, k ≤ l.length ∧ x2 = .int .i64 k ∧ wr.ownsRow w.heap.size 57 3 x1 ((l.take k).filter (fun o : Op3 => o.1 == tx)).length (flat ((l.take k).filter (fun o : Op3 => o.1 == tx))) ∧ Below w.heap.size w wr) (fun _ x2 _ => l.length - (intOf x2).toNat)
  case atStart => exact ⟨0, Nat.zero_le _, rfl, World.ownsRow_nil _ _ _ _, Below.refl _ _⟩
  case round =>
    obtain ⟨k, hk, rfl, hown, hbel⟩ := hrel
    have hsz := hbel.size
    by_cases hlt : k < l.length
    · obtain rfl := ha (by omega)
      have hb1 : b < w.heap.size := by
        rcases hbB with h | h
        · exact h
        · subst h; simp at hlt
      obtain ⟨c0, c1, c2⟩ := (hops.below hbel (.inl hb1)) k hlt
      obtain ⟨⟨t, a, i⟩, ho⟩ : ∃ o : Op3, l.getD k (0, 0, 0) = o := ⟨_, rfl⟩
      rw [ho] at c0 c1 c2
      have hmem : (t, a, i) ∈ l := by rw [← ho]; simp [List.getD, List.getElem?_eq_getElem hlt]
      have HT : Hid (l.take (k + 1) = l.take k ++ [(t, a, i)]) := by
        show l.take (k + 1) = l.take k ++ [(t, a, i)]
        rw [List.take_succ_eq_append_getElem hlt, ← ho]; simp [List.getD, List.getElem?_eq_getElem hlt]
      have hkl := take_len (fun o : Op3 => o.1 == tx) l k
      skip
      clear ho hops ha hbB hmem
      simp only at c0 c1 c2
      obtain ⟨n, hn⟩ : ∃ n, ((l.take k).filter (fun o : Op3 => o.1 == tx)).length = n := ⟨_, rfl⟩
      have HN : Hid (((l.take k).filter (fun o : Op3 => o.1 == tx)).length = n) := hn
      rw [hn] at hown hkl
      have HOWN : Hid (wr.ownsRow w.heap.size 57 3 u5 n (flat ((l.take k).filter (fun o : Op3 => o.1 == tx)))) := hown
      clear hn hown
      cases hq : (fun o : Op3 => o.1 == tx) (t, a, i) with
      | false =>
        have HQ : Hid ((fun o : Op3 => o.1 == tx) (t, a, i) = false) := hq
        have hq' : (t == tx) = false := hq
        clear hq
        go_wp2_with (fail)
        go_roundw
        case rel => exact ⟨k + 1, by omega, by go_num, by rw [filter_drop (q := (fun o : Op3 => o.1 == tx)) HT.out HQ.out, HN.out]; exact HOWN.out, hbel⟩
        case measure => simp [intOf]; omega
      | true =>
        have HQ : Hid ((fun o : Op3 => o.1 == tx) (t, a, i) = true) := hq
        have hq' : (t == tx) = true := hq
        clear hq
        go_wp2_with (first | (fail) | (at_builtin; refine wpList_append_own _ rfl (.tmp 20) (.tmp 25) 22 rfl w.heap.size 57 i0 (.agg #[.int .i64 0, .int .i64 0, .int .i64 0]) 3 24 Tryd.underlying22 HI.out.1 HI.out.2.1 HI.out.2.2.1 HI.out.2.2.2 rfl (by decide) u5 n (flat ((l.take k).filter (fun o : Op3 => o.1 == tx))) rfl (HOWN.out.alloc _) ⟨wr.heap.size, 0, none⟩ 1 1 (flat [(t, a, i)]) rfl rfl (one_at wr t a i) (flat_one _) (by unfold maxLen; omega) (by omega) (by simp; omega) ?_; intro v1 w1 hown1 hgr1 hnil1))
        have hB1 := (hbel.alloc hsz _).grown hgr1 (by simp; omega) (fun m hm => (HOWN.out.lt m hm).1)
        go_roundw
        case rel => exact ⟨k + 1, by omega, by go_num, by rw [filter_keep (q := (fun o : Op3 => o.1 == tx)) HT.out HQ.out, List.length_append, HN.out, flat_append]; exact hown1, hB1⟩
        case measure => simp [intOf]; omega
    · go_wp2
      go_ret
      exact ⟨_, rfl, by rw [List.take_of_length_le (by omega)] at hown; exact hown, hbel⟩
/-- A slice value that is no longer than its capacity. -/
def Room (v : Value) : Prop := ∃ ad n c, v = .slice ad n c ∧ n ≤ c
theorem own_room {w : World} {base e s n : Nat} {v : Value} {xs : List Value} (h : w.ownsRow base e s v n xs) : Room v := by
  obtain ⟨_, ⟨hv, hd⟩ | ⟨g, cap, cur, hv, hb, hg, hn, _⟩⟩ := h
  · exact ⟨none, 0, 0, hv, Nat.le_refl _⟩
  · exact ⟨_, _, _, hv, hn⟩
set_option maxHeartbeats 4000000 in
theorem refDone_room (l : List Op3) (v : Value)  (w : World) (hI : IsOps w v l) (hc : (chk l).2 = 0) :
    Calls Tryd.prog 17 #[v] w fun e w' => ∃ v', e = .returned v' ∧ IsOps w' v' (l.filter (fun o : Op3 => commIn l o.1.toNat)) ∧ Room v' ∧ Below w.heap.size w w' := by
  obtain ⟨ad, b, off, cap, rfl, ha, hn, hbB, hops⟩ := hI
  have HI0 : Hid (IsOps w (.slice ad l.length cap) l) := ⟨ad, b, off, cap, rfl, ha, hn, hbB, hops⟩
  clear hn
  obtain ⟨i0, hi, hz0, hs0, hy0⟩ := info_parts infoOp
  have HI : Hid (Tryd.prog.info? 57 = some i0 ∧ i0.zero = some (.agg #[.int .i64 0, .int .i64 0, .int .i64 0]) ∧ i0.size = 3 ∧ i0.bytes = 24) := ⟨hi, hz0, hs0, hy0⟩
  clear hi hz0 hs0 hy0
  go_enter Tryd.func17, Tryd.ntmps17
  go_wp2
  go_loopw [3, 4] (fun x1 x2 wr => ∃ k : Nat, k ≤ l.length ∧ x2 = .int .i64 k ∧ wr.ownsRow w.heap.size 57 3 x1 ((l.take k).filter (fun o : Op3 => commIn l o.1.toNat)).length (flat ((l.take k).filter (fun o : Op3 => commIn l o.1.toNat))) ∧ Below w.heap.size w wr) (fun _ x2 _ => l.length - (intOf x2).toNat)
  case atStart => exact ⟨0, Nat.zero_le _, rfl, World.ownsRow_nil _ _ _ _, Below.refl _ _⟩
  case round =>
    obtain ⟨k, hk, rfl, hown, hbel⟩ := hrel
    have hsz := hbel.size
    by_cases hlt : k < l.length
    · obtain rfl := ha (by omega)
      have hb1 : b < w.heap.size := by
        rcases hbB with h | h
        · exact h
        · subst h; simp at hlt
      obtain ⟨c0, c1, c2⟩ := (hops.below hbel (.inl hb1)) k hlt
      obtain ⟨⟨t, a, i⟩, ho⟩ : ∃ o : Op3, l.getD k (0, 0, 0) = o := ⟨_, rfl⟩
      rw [ho] at c0 c1 c2
      have hmem : (t, a, i) ∈ l := by rw [← ho]; simp [List.getD, List.getElem?_eq_getElem hlt]
      have HT : Hid (l.take (k + 1) = l.take k ++ [(t, a, i)]) := by
        show l.take (k + 1) = l.take k ++ [(t, a, i)]
        rw [List.take_succ_eq_append_getElem hlt, ← ho]; simp [List.getD, List.getElem?_eq_getElem hlt]
      have hkl := take_len (fun o : Op3 => commIn l o.1.toNat) l k
      have hl40 := chk_len hc
      have htx := isOp_tx (chk_ops hc _ hmem)
      have HE : Hid ((endOf l t == 3) = commIn l t.toNat) := by
        have := endOf_comm l t.toNat (chk_ops hc) ((chk_iff l).1 hc).2.2
        show (endOf l t == 3) = commIn l t.toNat
        rw [← this, show ((t.toNat : Nat) : Int) = t by omega]
      have HIk : Hid (IsOps wr (.slice (some ⟨b, off, none⟩) l.length cap) l) := HI0.out.below hbel (Nat.le_refl _)
      clear ho hops ha hbB hmem
      simp only at c0 c1 c2
      obtain ⟨n, hn⟩ : ∃ n, ((l.take k).filter (fun o : Op3 => commIn l o.1.toNat)).length = n := ⟨_, rfl⟩
      have HN : Hid (((l.take k).filter (fun o : Op3 => commIn l o.1.toNat)).length = n) := hn
      rw [hn] at hown hkl
      have HOWN : Hid (wr.ownsRow w.heap.size 57 3 u3 n (flat ((l.take k).filter (fun o : Op3 => commIn l o.1.toNat)))) := hown
      clear hn hown
      cases hq : (fun o : Op3 => commIn l o.1.toNat) (t, a, i) with
      | false =>
        have HQ : Hid ((fun o : Op3 => commIn l o.1.toNat) (t, a, i) = false) := hq
        have hq' : (endOf l t == 3) = false := HE.out.trans hq
        clear hq
        go_wp2_with (go_at_call 31; refine (end_v l _ t _ HIk.out (by omega)).mono ?_; rintro e w9 ⟨rfl, hw9⟩; rw [hw9]; clear hw9)
        go_roundw
        case rel => exact ⟨k + 1, by omega, by go_num, by rw [filter_drop (q := (fun o : Op3 => commIn l o.1.toNat)) HT.out HQ.out, HN.out]; exact HOWN.out, hbel⟩
        case measure => simp [intOf]; omega
      | true =>
        have HQ : Hid ((fun o : Op3 => commIn l o.1.toNat) (t, a, i) = true) := hq
        have hq' : (endOf l t == 3) = true := HE.out.trans hq
        clear hq
        go_wp2_with (first | (go_at_call 31; refine (end_v l _ t _ HIk.out (by omega)).mono ?_; rintro e w9 ⟨rfl, hw9⟩; rw [hw9]; clear hw9) | (at_builtin; refine wpList_append_own _ rfl (.tmp 21) (.tmp 26) 22 rfl w.heap.size 57 i0 (.agg #[.int .i64 0, .int .i64 0, .int .i64 0]) 3 24 Tryd.underlying22 HI.out.1 HI.out.2.1 HI.out.2.2.1 HI.out.2.2.2 rfl (by decide) u3 n (flat ((l.take k).filter (fun o : Op3 => commIn l o.1.toNat))) rfl (HOWN.out.alloc _) ⟨wr.heap.size, 0, none⟩ 1 1 (flat [(t, a, i)]) rfl rfl (one_at wr t a i) (flat_one _) (by unfold maxLen; omega) (by omega) (by simp; omega) ?_; intro v1 w1 hown1 hgr1 hnil1))
        have hB1 := (hbel.alloc hsz _).grown hgr1 (by simp; omega) (fun m hm => (HOWN.out.lt m hm).1)
        go_roundw
        case rel => exact ⟨k + 1, by omega, by go_num, by rw [filter_keep (q := (fun o : Op3 => commIn l o.1.toNat)) HT.out HQ.out, List.length_append, HN.out, flat_append]; exact hown1, hB1⟩
        case measure => simp [intOf]; omega
    · go_wp2
      go_ret
      exact ⟨_, rfl, by rw [List.take_of_length_le (by omega)] at hown; exact isOps_own hown rfl, own_room hown, hbel⟩
theorem refDone_any (l : List Op3) (v : Value) (w : World) (hI : IsOps w v l) (hc : (chk l).2 = 0) :
    Calls Tryd.prog 17 #[v] w fun e w' => ∃ v', e = .returned v' ∧ IsOps w' v' (l.filter (fun o : Op3 => commIn l o.1.toNat)) ∧ Below w.heap.size w w' :=
  (refDone_room l v w hI hc).mono fun _ _ ⟨v', h1, h2, _, h3⟩ => ⟨v', h1, h2, h3⟩
end Go.Proofs.YtmjjiehnjghndaaDoor
