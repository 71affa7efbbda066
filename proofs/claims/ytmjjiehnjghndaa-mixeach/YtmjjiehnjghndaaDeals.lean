/-
  PROVED HERE: history.Deals gives the deals that have an op, rising, of a list that is right; of any other Check's error. Old memory stays as it was.
  Conditions: none.
  (Of these, what the claim wants: the rest was left out.)
-/
import Derived.Test.YtmjjiehnjghndaaMgag
import Derived.Test.YtmjjiehnjghndaaIntRow
namespace Go.Proofs.Ytmjjiehnjghndaa
open Go.RowKit

def hasB (l : List Op3) (t : Int) : Bool := l.any fun o => o.1 == t
def dealsTo (l : List Op3) : Nat → List Int
  | 0 => []
  | n + 1 => dealsTo l n ++ (if hasB l ((n : Int) + 1) then [(n : Int) + 1] else [])
def dealsL (l : List Op3) : List Int := dealsTo l 6
theorem dealsTo_len (l : List Op3) (n : Nat) : (dealsTo l n).length ≤ n := by
  induction n with
  | zero => simp [dealsTo]
  | succ n ih => simp only [dealsTo]; split <;> simp <;> omega

theorem hasB_drop {l : List Op3} {k : Nat} {o : Op3} (hd : l.drop k = o :: l.drop (k + 1)) (t : Int) : hasB (l.drop k) t = (o.1 == t || hasB (l.drop (k + 1)) t) := by
  rw [hd]; rfl
set_option maxHeartbeats 2000000 in
theorem index_any (l : List Op3) (ad : Option Addr) (b off cap : Nat) (c : Nat) (tx : Int) (w : World) (hlen : l.length ≤ 140737488351) (ha : 0 < l.length → ad = some ⟨b, off, none⟩) (hbB : b < w.heap.size ∨ l = []) (hops : OpsAt w b off l) (hc : w.cell? ⟨c, 0, none⟩ = some (.int .i64 tx)) (hcl : c < w.heap.size) :
    Calls Try.prog 57 #[.slice ad l.length cap, .func (.func 41) #[] #[.pointer (some ⟨c, 0, none⟩)]] w fun e w' => ∃ n : Int, e = .returned (.int .i64 n) ∧ decide (0 ≤ n) = hasB l tx ∧ Below w.heap.size w w' := by
  go_enter Try.func57, Try.ntmps57
  go_wp2
  go_loopw [8] (fun v8 wr => ∃ k : Nat, k ≤ l.length ∧ v8 = .int .i64 k ∧ hasB (l.drop k) tx = hasB l tx ∧ Below w.heap.size w wr) (fun v8 _ => l.length - (intOf v8).toNat)
  case atStart => exact ⟨0, Nat.zero_le _, rfl, rfl, Below.refl _ _⟩
  case round =>
    obtain ⟨k, hk, rfl, hck, hbel⟩ := hrel
    have HK : Hid (hasB (l.drop k) tx = hasB l tx) := hck
    clear hck
    by_cases hlt : k < l.length
    · obtain rfl := ha (by omega)
      obtain ⟨c0, c1, c2⟩ := hops k hlt
      have hb1 : b < w.heap.size := by
        rcases hbB with h | h
        · exact h
        · subst h; simp at hlt
      rw [← hbel.cell (p := ⟨b, off + k * 3, none⟩) hb1] at c0
      rw [← hbel.cell (p := ⟨b, off + k * 3 + 1, none⟩) hb1] at c1
      rw [← hbel.cell (p := ⟨b, off + k * 3 + 2, none⟩) hb1] at c2
      rw [← hbel.cell (p := ⟨c, 0, none⟩) hcl] at hc
      obtain ⟨⟨t, a, i⟩, ho⟩ : ∃ o : Op3, l.getD k (0, 0, 0) = o := ⟨_, rfl⟩
      rw [ho] at c0 c1 c2
      have hsz := hbel.size
      have HD : Hid (l.drop k = (t, a, i) :: l.drop (k + 1)) := by
        show l.drop k = (t, a, i) :: l.drop (k + 1)
        rw [← ho]; simp [List.getD, List.getElem?_eq_getElem hlt]
      clear ho hops ha hbB
      simp only at c0 c1 c2
      cases hq : (t == tx) with
      | true =>
        go_wp2_with (go_at_call 41; refine (isOf1_any t a i tx c _ hc (by omega)).mono ?_; rintro e w' ⟨rfl, rfl⟩)
        go_ret
        exact ⟨k, rfl, by rw [← HK.out, hasB_drop HD.out]; simp [hq], hbel.alloc (by omega) _⟩
      | false =>
        go_wp2_with (go_at_call 41; refine (isOf1_any t a i tx c _ hc (by omega)).mono ?_; rintro e w' ⟨rfl, rfl⟩)
        go_roundw
        case rel => exact ⟨k + 1, by omega, by go_num, by rw [← HK.out, hasB_drop HD.out]; simp [hq], hbel.alloc (by omega) _⟩
        case measure => simp [intOf]; omega
    · go_wp2
      go_ret
      exact ⟨-1, rfl, by rw [← HK.out, List.drop_of_length_le (by omega)]; rfl, hbel⟩
set_option maxHeartbeats 2000000 in
theorem contains_any (l : List Op3) (v : Value) (c : Nat) (tx : Int) (w : World) (hI : IsOps w v l) (hlen : l.length ≤ 140737488351) (hc : w.cell? ⟨c, 0, none⟩ = some (.int .i64 tx)) (hcl : c < w.heap.size) :
    Calls Try.prog 54 #[v, .func (.func 41) #[] #[.pointer (some ⟨c, 0, none⟩)]] w fun e w' => e = .returned (.bool (hasB l tx)) ∧ Below w.heap.size w w' := by
  obtain ⟨ad, b, off, cap, rfl, ha, hn, hbB, hops⟩ := hI
  go_enter Try.func54, Try.ntmps54
  go_wp2_with (go_at_call 57; refine (index_any l ad b off cap c tx _ hlen ha hbB hops hc hcl).mono ?_; rintro e w1 ⟨n, rfl, hn1, hb1⟩)
  go_ret
  exact ⟨rfl, hb1⟩

set_option maxHeartbeats 4000000 in
theorem deals_own (l : List Op3) (v : Value) (w : World) (h : IsOps w v l) (hc : (chk l).2 = 0) :
    Calls Try.prog 45 #[v] w fun e w' => ∃ v', e = .returned (.tuple #[v', .nilIface]) ∧ w'.ownsRow w.heap.size 3 1 v' (dealsL l).length ((dealsL l).map (Value.int .i64)) ∧ Below w.heap.size w w' := by
  have hl40 := chk_len hc
  go_enter Try.func45, Try.ntmps45
  go_wp2_with (go_at_call 20; refine (check_ok l _ _ h hc).mono ?_; rintro e w1 ⟨rfl, hb1⟩)
  clear hc
  have hs1 := hb1.size
  go_loopw [6, 7] (fun v6 v7 wr => ∃ n : Nat, n ≤ 6 ∧ v7 = .int .i64 (n + 1) ∧ wr.ownsRow w.heap.size 3 1 v6 (dealsTo l n).length ((dealsTo l n).map (Value.int .i64)) ∧ Below w.heap.size w wr) (fun _ v7 _ => 7 - (intOf v7).toNat)
  case atStart => exact ⟨0, by omega, rfl, World.ownsRow_nil _ _ _ _, hb1⟩
  case round =>
    obtain ⟨n, hn6, rfl, hown, hbel⟩ := hrel
    have hsz := hbel.size
    have hdl := dealsTo_len l n
    by_cases hlt : n < 6
    · have hI := (h.below hbel (Nat.le_refl _)).below ((Below.refl wr.heap.size wr).alloc (Nat.le_refl _) (.cells #[.int .i64 ((n : Int) + 1)] 3)) (Nat.le_refl _)
      cases hq : hasB l ((n : Int) + 1) with
      | false =>
        have HQ : Hid (dealsTo l (n + 1) = dealsTo l n) := by show dealsTo l (n + 1) = dealsTo l n; simp [dealsTo, hq]
        go_wp2_with (first | (go_at_call 54; refine (contains_any l v wr.heap.size ((n : Int) + 1) _ hI (by omega) (by simp) (by simp)).mono ?_; rintro e w2 ⟨rfl, hb2⟩) | go_in)
        have hB2 := (hbel.alloc hsz (.cells #[.int .i64 ((n : Int) + 1)] 3)).trans (hb2.mono (by simp; omega))
        go_roundw
        case rel => exact ⟨n + 1, by omega, by go_num, by rw [HQ.out]; exact own_below (hown.alloc _) hb2 (Nat.le_refl _), hB2⟩
        case measure => simp [intOf]; omega
      | true =>
        have HQ : Hid (dealsTo l (n + 1) = dealsTo l n ++ [(n : Int) + 1]) := by show dealsTo l (n + 1) = dealsTo l n ++ [(n : Int) + 1]; simp [dealsTo, hq]
        obtain ⟨i0, hi, hz0, hs0, hy0⟩ := info_parts infoInt
        have HI : Hid (Try.prog.info? 3 = some i0 ∧ i0.zero = some (.int .i64 0) ∧ i0.size = 1 ∧ i0.bytes = 8) := ⟨hi, hz0, hs0, hy0⟩
        clear hi hz0 hs0 hy0
        go_wp2_with (first | (go_at_call 54; refine (contains_any l v wr.heap.size ((n : Int) + 1) _ hI (by omega) (by simp) (by simp)).mono ?_; rintro e w2 ⟨rfl, hb2⟩; have hown2 := own_below (hown.alloc _) hb2 (Nat.le_refl _); have hs2 := hb2.size; simp at hs2) | (at_builtin; refine wpList_append_own _ rfl (.tmp 24) (.tmp 26) 35 rfl w.heap.size 3 i0 (.int .i64 0) 1 8 Try.underlying35 HI.out.1 HI.out.2.1 HI.out.2.2.1 HI.out.2.2.2 rfl (by decide) u6 (dealsTo l n).length ((dealsTo l n).map (Value.int .i64)) rfl (hown2.alloc _) ⟨w2.heap.size, 0, none⟩ 1 1 [.int .i64 ((n : Int) + 1)] rfl rfl (cell_one_new _ _ _) (by simp [Value.oneCell']) (by unfold maxLen; omega) (by omega) (by simp; omega) ?_; intro v' w3 hown3 hgr3 hnil3) | go_in)
        have hB2 := (hbel.alloc hsz (.cells #[.int .i64 ((n : Int) + 1)] 3)).trans (hb2.mono (by simp; omega))
        have hB3 := (hB2.alloc (by omega) _).grown hgr3 (by simp; omega) (fun m hm => (hown.lt m hm).1)
        go_roundw
        case rel => exact ⟨n + 1, by omega, by go_num, by rw [HQ.out]; simpa using hown3, hB3⟩
        case measure => simp [intOf]; omega
    · obtain rfl : n = 6 := by omega
      go_wp2
      go_ret2
      exact ⟨_, rfl, hown, hbel⟩
end Go.Proofs.Ytmjjiehnjghndaa
