/-
  PROVED HERE: history.Deals gives the deals that have an op, rising, of a list that is right; of any other Check's error. Old memory stays as it was.
  Conditions: none.
  (Of these, what the claim wants: the rest was left out.)
  PROVED HERE: plain facts on histories, with no word of the program: which lists are right; parts of a right list are right; what is done twice is what is done; the deals rise, and their ops are all the ops.
  Conditions: none.
  (Of these, what the claim wants: the rest was left out.)
-/
import Derived.Test.YtmjjiehnjghndaaGreatMgae
namespace Go.Proofs.YtmjjiehnjghndaaGreat
open Go.RowKit

def hasB (l : List Op3) (t : Int) : Bool := l.any fun o => o.1 == t
def dealsTo (l : List Op3) : Nat → List Int
  | 0 => []
  | n + 1 => dealsTo l n ++ (if hasB l ((n : Int) + 1) then [(n : Int) + 1] else [])
def dealsL (l : List Op3) : List Int := dealsTo l 6
theorem dealsTo_len (l : List Op3) (n : Nat) : (dealsTo l n).length ≤ n := by
  induction n with
  | zero => simp [dealsTo]
  | succ n ih => simp only [dealsTo]; split <;> simp <;> omega

theorem hasB_drop {l : List Op3} {k : Nat} {o : Op3} (hd : l.drop k = o :: l.drop (k + 1)) (t : Int) : hasB (l.drop k) t = (o.1 == t || hasB (l.drop (k + 1)) t) := by
  rw [hd]; rfl
set_option maxHeartbeats 2000000 in
theorem index_any (l : List Op3) (ad : Option Addr) (b off cap : Nat) (c : Nat) (tx : Int) (w : World) (hlen : l.length ≤ 140737488351) (ha : 0 < l.length → ad = some ⟨b, off, none⟩) (hbB : b < w.heap.size ∨ l = []) (hops : OpsAt w b off l) (hc : w.cell? ⟨c, 0, none⟩ = some (.int .i64 tx)) (hcl : c < w.heap.size) :
    Calls Tryz.prog 86 #[.slice ad l.length cap, .func (.func 70) #[] #[.pointer (some ⟨c, 0, none⟩)]] w fun e w' => ∃ n : Int, e = .returned (.int .i64 n) ∧ decide (0 ≤ n) = hasB l tx ∧ Below w.heap.size w w' := by
  go_enter Tryz.func86, Tryz.ntmps86
  go_wp2
  go_loopw [8] (fun v8 wr => ∃ k : Nat, k ≤ l.length ∧ v8 = .int .i64 k ∧ hasB (l.drop k) tx = hasB l tx ∧ Below w.heap.size w wr) (fun v8 _ => l.length - (intOf v8).toNat)
  case atStart => exact ⟨0, Nat.zero_le _, rfl, rfl, Below.refl _ _⟩
  case round =>
    obtain ⟨k, hk, rfl, hck, hbel⟩ := hrel
    have HK : Hid (hasB (l.drop k) tx = hasB l tx) := hck
    clear hck
    by_cases hlt : k < l.length
    · obtain rfl := ha (by omega)
      obtain ⟨c0, c1, c2⟩ := hops k hlt
      have hb1 : b < w.heap.size := by
        rcases hbB with h | h
        · exact h
        · subst h; simp at hlt
      rw [← hbel.cell (p := ⟨b, off + k * 3, none⟩) hb1] at c0
      rw [← hbel.cell (p := ⟨b, off + k * 3 + 1, none⟩) hb1] at c1
      rw [← hbel.cell (p := ⟨b, off + k * 3 + 2, none⟩) hb1] at c2
      rw [← hbel.cell (p := ⟨c, 0, none⟩) hcl] at hc
      obtain ⟨⟨t, a, i⟩, ho⟩ : ∃ o : Op3, l.getD k (0, 0, 0) = o := ⟨_, rfl⟩
      rw [ho] at c0 c1 c2
      have hsz := hbel.size
      have HD : Hid (l.drop k = (t, a, i) :: l.drop (k + 1)) := by
        show l.drop k = (t, a, i) :: l.drop (k + 1)
        rw [← ho]; simp [List.getD, List.getElem?_eq_getElem hlt]
      clear ho hops ha hbB
      simp only at c0 c1 c2
      cases hq : (t == tx) with
      | true =>
        go_wp2_with (go_at_call 70; refine (isOf1_any t a i tx c _ hc (by omega)).mono ?_; rintro e w' ⟨rfl, rfl⟩)
        go_ret
        exact ⟨k, rfl, by rw [← HK.out, hasB_drop HD.out]; simp [hq], hbel.alloc (by omega) _⟩
      | false =>
        go_wp2_with (go_at_call 70; refine (isOf1_any t a i tx c _ hc (by omega)).mono ?_; rintro e w' ⟨rfl, rfl⟩)
        go_roundw
        case rel => exact ⟨k + 1, by omega, by go_num, by rw [← HK.out, hasB_drop HD.out]; simp [hq], hbel.alloc (by omega) _⟩
        case measure => simp [intOf]; omega
    · go_wp2
      go_ret
      exact ⟨-1, rfl, by rw [← HK.out, List.drop_of_length_le (by omega)]; rfl, hbel⟩
set_option maxHeartbeats 2000000 in
theorem contains_any (l : List Op3) (v : Value) (c : Nat) (tx : Int) (w : World) (hI : IsOps w v l) (hlen : l.length ≤ 140737488351) (hc : w.cell? ⟨c, 0, none⟩ = some (.int .i64 tx)) (hcl : c < w.heap.size) :
    Calls Tryz.prog 61 #[v, .func (.func 70) #[] #[.pointer (some ⟨c, 0, none⟩)]] w fun e w' => e = .returned (.bool (hasB l tx)) ∧ Below w.heap.size w w' := by
  obtain ⟨ad, b, off, cap, rfl, ha, hn, hbB, hops⟩ := hI
  go_enter Tryz.func61, Tryz.ntmps61
  go_wp2_with (go_at_call 86; refine (index_any l ad b off cap c tx _ hlen ha hbB hops hc hcl).mono ?_; rintro e w1 ⟨n, rfl, hn1, hb1⟩)
  go_ret
  exact ⟨rfl, hb1⟩

set_option maxHeartbeats 4000000 in
theorem deals_own (l : List Op3) (v : Value) (w : World) (h : IsOps w v l) (hc : (chk l).2 = 0) :
    Calls Tryz.prog 40 #[v] w fun e w' => ∃ v', e = .returned (.tuple #[v', .nilIface]) ∧ w'.ownsRow w.heap.size 3 1 v' (dealsL l).length ((dealsL l).map (Value.int .i64)) ∧ Below w.heap.size w w' := by
  have hl40 := chk_len hc
  go_enter Tryz.func40, Tryz.ntmps40
  go_wp2_with (go_at_call 16; refine (check_ok l _ _ h hc).mono ?_; rintro e w1 ⟨rfl, hb1⟩)
  clear hc
  have hs1 := hb1.size
  go_loopw [6, 7] (fun v6 v7 wr => ∃ n : Nat, n ≤ 6 ∧ v7 = .int .i64 (n + 1) ∧ wr.ownsRow w.heap.size 3 1 v6 (dealsTo l n).length ((dealsTo l n).map (Value.int .i64)) ∧ Below w.heap.size w wr) (fun _ v7 _ => 7 - (intOf v7).toNat)
  case atStart => exact ⟨0, by omega, rfl, World.ownsRow_nil _ _ _ _, hb1⟩
  case round =>
    obtain ⟨n, hn6, rfl, hown, hbel⟩ := hrel
    have hsz := hbel.size
    have hdl := dealsTo_len l n
    by_cases hlt : n < 6
    · have hI := (h.below hbel (Nat.le_refl _)).below ((Below.refl wr.heap.size wr).alloc (Nat.le_refl _) (.cells #[.int .i64 ((n : Int) + 1)] 3)) (Nat.le_refl _)
      cases hq : hasB l ((n : Int) + 1) with
      | false =>
        have HQ : Hid (dealsTo l (n + 1) = dealsTo l n) := by show dealsTo l (n + 1) = dealsTo l n; simp [dealsTo, hq]
        go_wp2_with (first | (go_at_call 61; refine (contains_any l v wr.heap.size ((n : Int) + 1) _ hI (by omega) (by simp) (by simp)).mono ?_; rintro e w2 ⟨rfl, hb2⟩) | go_in)
        have hB2 := (hbel.alloc hsz (.cells #[.int .i64 ((n : Int) + 1)] 3)).trans (hb2.mono (by simp; omega))
        go_roundw
        case rel => exact ⟨n + 1, by omega, by go_num, by rw [HQ.out]; exact own_below (hown.alloc _) hb2 (Nat.le_refl _), hB2⟩
        case measure => simp [intOf]; omega
      | true =>
        have HQ : Hid (dealsTo l (n + 1) = dealsTo l n ++ [(n : Int) + 1]) := by show dealsTo l (n + 1) = dealsTo l n ++ [(n : Int) + 1]; simp [dealsTo, hq]
        obtain ⟨i0, hi, hz0, hs0, hy0⟩ := info_parts infoInt
        have HI : Hid (Tryz.prog.info? 3 = some i0 ∧ i0.zero = some (.int .i64 0) ∧ i0.size = 1 ∧ i0.bytes = 8) := ⟨hi, hz0, hs0, hy0⟩
        clear hi hz0 hs0 hy0
        go_wp2_with (first | (go_at_call 61; refine (contains_any l v wr.heap.size ((n : Int) + 1) _ hI (by omega) (by simp) (by simp)).mono ?_; rintro e w2 ⟨rfl, hb2⟩; have hown2 := own_below (hown.alloc _) hb2 (Nat.le_refl _); have hs2 := hb2.size; simp at hs2) | (at_builtin; refine wpList_append_own _ rfl (.tmp 24) (.tmp 26) 28 rfl w.heap.size 3 i0 (.int .i64 0) 1 8 Tryz.underlying28 HI.out.1 HI.out.2.1 HI.out.2.2.1 HI.out.2.2.2 rfl (by decide) u6 (dealsTo l n).length ((dealsTo l n).map (Value.int .i64)) rfl (hown2.alloc _) ⟨w2.heap.size, 0, none⟩ 1 1 [.int .i64 ((n : Int) + 1)] rfl rfl (cell_one_new _ _ _) (by simp [Value.oneCell']) (by unfold maxLen; omega) (by omega) (by simp; omega) ?_; intro v' w3 hown3 hgr3 hnil3) | go_in)
        have hB2 := (hbel.alloc hsz (.cells #[.int .i64 ((n : Int) + 1)] 3)).trans (hb2.mono (by simp; omega))
        have hB3 := (hB2.alloc (by omega) _).grown hgr3 (by simp; omega) (fun m hm => (hown.lt m hm).1)
        go_roundw
        case rel => exact ⟨n + 1, by omega, by go_num, by rw [HQ.out]; simpa using hown3, hB3⟩
        case measure => simp [intOf]; omega
    · obtain rfl : n = 6 := by omega
      go_wp2
      go_ret2
      exact ⟨_, rfl, hown, hbel⟩
end Go.Proofs.YtmjjiehnjghndaaGreat

namespace Go.Proofs.YtmjjiehnjghndaaGreat

/-- No op stands behind an end of its deal. -/
def Calm (l : List Op3) : Prop := l.Pairwise fun a b => ¬ (a.1 = b.1 ∧ endsB a.2.1 = true)
theorem endedIn_false {l : List Op3} {t : Int} : endedIn l t = false ↔ ∀ o ∈ l, ¬ (o.1 = t ∧ endsB o.2.1 = true) := by
  simp [endedIn]
theorem chkFrom_iff (l : List Op3) : ∀ pre, (chkFrom pre l).2 = 0 ↔ ((∀ o ∈ l, isOpB o = true) ∧ (∀ o ∈ l, endedIn pre o.1 = false) ∧ Calm l) := by
  induction l with
  | nil => intro pre; simp [chkFrom, Calm]
  | cons a r ih =>
    intro pre
    cases h1 : isOpB a with
    | false =>
      rw [chkFrom_bad1 pre r h1]
      simp [h1]
    | true =>
      cases h2 : endedIn pre a.1 with
      | true =>
        rw [chkFrom_bad2 r h1 h2]
        simp [h2]
      | false =>
        rw [chkFrom_go r h1 h2, ih]
        constructor
        · rintro ⟨k1, k2, k3⟩
          refine ⟨fun o ho => ?_, fun o ho => ?_, ?_⟩
          · rcases List.mem_cons.1 ho with rfl | ho
            · exact h1
            · exact k1 o ho
          · rcases List.mem_cons.1 ho with rfl | ho
            · exact h2
            · have := k2 o ho
              rw [endedIn_snoc] at this
              exact (Bool.or_eq_false_iff.1 this).1
          · refine List.pairwise_cons.2 ⟨fun b hb => ?_, k3⟩
            have := k2 b hb
            rw [endedIn_snoc] at this
            have h3 := (Bool.or_eq_false_iff.1 this).2
            rintro ⟨e1, e2⟩
            simp [e1, e2] at h3
        · rintro ⟨k1, k2, k3⟩
          obtain ⟨k4, k5⟩ := List.pairwise_cons.1 k3
          refine ⟨fun o ho => k1 o (List.mem_cons_of_mem _ ho), fun o ho => ?_, k5⟩
          rw [endedIn_snoc, k2 o (List.mem_cons_of_mem _ ho)]
          have := k4 o ho
          by_cases e1 : a.1 = o.1
          · cases e2 : endsB a.2.1 with
            | true => exact absurd ⟨e1, e2⟩ this
            | false => simp
          · simp [e1]
theorem chk_iff (l : List Op3) : (chk l).2 = 0 ↔ (l.length ≤ 40 ∧ (∀ o ∈ l, isOpB o = true) ∧ Calm l) := by
  constructor
  · intro h
    have hl := chk_len h
    rw [chk_short l hl, chkFrom_iff] at h
    exact ⟨hl, h.1, h.2.2⟩
  · rintro ⟨hl, h1, h2⟩
    rw [chk_short l hl, chkFrom_iff]
    exact ⟨h1, fun o _ => by simp [endedIn], h2⟩
theorem chk_sub {l m : List Op3} (h : (chk l).2 = 0) (hs : m.Sublist l) : (chk m).2 = 0 := by
  rw [chk_iff] at h ⊢
  exact ⟨Nat.le_trans hs.length_le h.1, fun o ho => h.2.1 o (hs.subset ho), h.2.2.sublist hs⟩
theorem chk_done {l : List Op3} (h : (chk l).2 = 0) : (chk (doneL l)).2 = 0 := chk_sub h (List.filter_sublist ..)
theorem commIn_done (l : List Op3) (t : Nat) : commIn (doneL l) t = commIn l t := by
  rw [Bool.eq_iff_iff]
  simp only [commIn, List.any_eq_true, doneL, List.mem_filter, Bool.and_eq_true, beq_iff_eq]
  constructor
  · rintro ⟨o, ⟨h1, _⟩, h2⟩
    exact ⟨o, h1, h2⟩
  · rintro ⟨o, h1, h2⟩
    refine ⟨o, ⟨h1, o, h1, ?_, h2.2⟩, h2⟩
    rw [h2.1]; simp
/-! ### Deals -/
theorem dealsTo_mem (l : List Op3) (n : Nat) : ∀ t ∈ dealsTo l n, 1 ≤ t ∧ t ≤ n ∧ hasB l t = true := by
  induction n with
  | zero => intro t ht; simp [dealsTo] at ht
  | succ n ih =>
    intro t ht
    simp only [dealsTo, List.mem_append] at ht
    rcases ht with ht | ht
    · have := ih t ht; exact ⟨this.1, by omega, this.2.2⟩
    · cases hb : hasB l ((n : Int) + 1) with
      | true => rw [hb, if_pos rfl] at ht; simp at ht; subst ht; exact ⟨by omega, by omega, hb⟩
      | false => rw [hb] at ht; simp at ht
theorem dealsTo_rise (l : List Op3) (n : Nat) : (dealsTo l n).Pairwise (· < ·) := by
  induction n with
  | zero => simp [dealsTo]
  | succ n ih =>
    simp only [dealsTo]
    refine List.pairwise_append.2 ⟨ih, ?_, fun a ha b hb => ?_⟩
    · split <;> simp
    · have h1 := (dealsTo_mem l n a ha).2.1
      split at hb
      · simp at hb; omega
      · simp at hb
theorem of_none {l : List Op3} {t : Int} (h : hasB l t = false) : (ofL l t).length = 0 := by
  simp [hasB] at h
  simp only [ofL]
  rw [List.length_eq_zero_iff, List.filter_eq_nil_iff]
  intro o ho
  have := h o.1 o.2.1 o.2.2 ho
  simpa using this
theorem of_some {l : List Op3} {t : Int} (h : hasB l t = true) : 0 < (ofL l t).length := by
  simp only [hasB, List.any_eq_true] at h
  obtain ⟨o, ho, he⟩ := h
  exact List.length_pos_of_mem (List.mem_filter.2 ⟨ho, he⟩)
end Go.Proofs.YtmjjiehnjghndaaGreat
