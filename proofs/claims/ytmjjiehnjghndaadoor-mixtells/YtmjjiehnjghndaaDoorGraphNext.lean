/-
  PROVED HERE: slices.Index and slices.Contains on a row of bools; graph.next gives the least deal that waits for nobody who is waiting, 0 if there is none. Old memory stays as it was.
  Conditions: none.
-/
import Derived.Test.YtmjjiehnjghndaaDoorGraphFunc
import Derived.Test.YtmjjiehnjghndaaDoorGraphNamed
namespace Go.Proofs.YtmjjiehnjghndaaDoor
open Go.RowKit

/-- A number in a block of its own. -/
def NumAt (w : World) (p : Nat) (t : Int) : Prop := w.cell? ⟨p, 0, none⟩ = some (.int .i64 t) ∧ w.frozen? ⟨p, 0, none⟩ = false
theorem NumAt.lt {w : World} {p : Nat} {t : Int} (h : NumAt w p t) : p < w.heap.size := by
  have := World.block_lt_of_cell? w _ h.1
  simpa using this
theorem NumAt.below {w w1 : World} {p B : Nat} {t : Int} (h : NumAt w p t) (hb : Below B w w1) (hB : p < B) : NumAt w1 p t := by
  unfold NumAt
  rw [hb.cell (p := ⟨p, 0, none⟩) hB, hb.frozen (p := ⟨p, 0, none⟩) hB]; exact h
theorem num_new (w : World) (x : Int) (t : Nat) (h : x = t) : NumAt (w.alloc (.cells #[.int .i64 x] 3)) w.heap.size t := by
  subst h
  simp [NumAt]
/-- The number that a pointer leads to. -/
def boxN (v : Value) (w : World) : Nat := match v with
  | .pointer (some a) => (match w.cell? a with
    | some (.int _ i) => i.toNat
    | _ => 0)
  | _ => 0
theorem box_at {a : Addr} {w : World} {t : Nat} (h : w.cell? a = some (.int .i64 t)) : boxN (.pointer (some a)) w = t := by simp [boxN, h]
theorem box_less {a c : Addr} {w w1 : World} {t : Nat} (h : w.cell? a = some (.int .i64 t)) (h1 : w1.cell? c = some (.int .i64 ((t + 1 : Nat) : Int))) (ht : t < 7) : 7 - boxN (.pointer (some c)) w1 < 7 - boxN (.pointer (some a)) w := by
  rw [box_at h, box_at h1]; omega
theorem anyTo_snoc {s : Set7} {k : Nat} (h : (List.range k).any s = false) (h1 : s k = false) : (List.range (k + 1)).any s = false := by
  rw [List.range_succ, List.any_append, h]; simp [h1]
theorem anyTo_hit {s : Set7} {k n : Nat} (hk : k < n) (h : s k = true) : (List.range n).any s = true := List.any_eq_true.2 ⟨k, List.mem_range.2 hk, h⟩

set_option maxHeartbeats 2000000 in
theorem index_bools (s : Set7) (b cap : Nat) (w : World) (h : BoolsAt w b 7 s) :
    Calls Tryd.prog 74 #[.slice (some ⟨b, 0, none⟩) 7 cap, .bool true] w fun e w' => ∃ n : Int, e = .returned (.int .i64 n) ∧ decide (0 ≤ n) = anyS s ∧ Below w.heap.size w w' := by
  have HB : Hid (BoolsAt w b 7 s) := h
  have hbl := h.lt (by omega)
  clear h
  go_enter Tryd.func74, Tryd.ntmps74
  go_wp2
  go_loopw [8] (fun v8 wr => ∃ k : Nat, k ≤ 7 ∧ v8 = .int .i64 k ∧ (List.range k).any s = false ∧ Below w.heap.size w wr) (fun v8 _ => 7 - (intOf v8).toNat)
  case atStart => exact ⟨0, by omega, rfl, rfl, Below.refl _ _⟩
  case round =>
    obtain ⟨k, hk, rfl, hno, hbel⟩ := hrel
    have HNO : Hid ((List.range k).any s = false) := hno
    clear hno
    by_cases hlt : k < 7
    · have c0 := ((HB.out.below hbel hbl) k hlt).1
      have hk7 : (k : Int) < 7 := by omega
      cases hq : s k with
      | false =>
        rw [hq] at c0
        have HQ : Hid (s k = false) := hq
        clear hq
        go_wp2
        go_roundw
        case rel => exact ⟨k + 1, by omega, by go_num, anyTo_snoc HNO.out HQ.out, hbel⟩
        case measure => simp [intOf]; omega
      | true =>
        rw [hq] at c0
        have HQ : Hid (anyS s = true) := anyTo_hit hlt hq
        clear hq
        go_wp2
        go_ret
        exact ⟨_, rfl, by rw [HQ.out]; simp, hbel⟩
    · have HQ : Hid (anyS s = false) := by
        have h0 := HNO.out
        rw [show k = 7 by omega] at h0
        exact h0
      have hk7 : ¬ (k : Int) < 7 := by omega
      go_wp2
      go_ret
      exact ⟨_, rfl, by rw [HQ.out]; rfl, hbel⟩
theorem contains_bools (s : Set7) (b cap : Nat) (w : World) (h : BoolsAt w b 7 s) :
    Calls Tryd.prog 57 #[.slice (some ⟨b, 0, none⟩) 7 cap, .bool true] w fun e w' => e = .returned (.bool (anyS s)) ∧ Below w.heap.size w w' := by
  have HC := index_bools s b cap w h
  clear h
  go_enter Tryd.func57, Tryd.ntmps57
  go_wp2_with (go_at_call 74; refine HC.mono ?_; rintro e w1 ⟨n, rfl, hn, hb1⟩)
  all_goals go_ret
  all_goals exact ⟨ret_bool' (by simp_all), hb1⟩

set_option maxHeartbeats 2000000 in
theorem next1_any (e : Edge2) (t : Nat) (s : Set7) (p q : Nat) (w : World) (hp : NumAt w p t) (hq : BoolsAt w q 7 s) (he : 1 ≤ e.1 ∧ e.1 ≤ 6) :
    Calls Tryd.prog 75 #[.agg #[.int .i64 e.1, .int .i64 e.2], .pointer (some ⟨p, 0, none⟩), .pointer (some ⟨q, 0, none⟩)] w fun r w' => r = .returned (.bool (holdB s t e)) ∧ Below w.heap.size w w' := by
  obtain ⟨x, y⟩ := e
  obtain ⟨x, rfl⟩ : ∃ n : Nat, x = n := ⟨x.toNat, by simp only at he; omega⟩
  simp only at he
  have HH : Hid (holdB s t ((x : Int), y) = (y == (t : Int) && s x)) := by show holdB s t ((x : Int), y) = _; simp [holdB]
  have hb : Below w.heap.size w (w.alloc (.cells #[.int .i64 x, .int .i64 y] 61)) := (Below.refl _ w).alloc (Nat.le_refl _) _
  have c0 := hp.1
  have hpl := hp.lt
  have c1 := (hq x (by omega)).1
  have hql := hq.lt (by omega)
  have hx7 : (x : Int) < 7 := by omega
  clear hp hq
  cases hy : (y == (t : Int)) with
  | false =>
    go_enter Tryd.func75, Tryd.ntmps75
    go_wp2
    go_ret
    exact ⟨ret_bool' (by rw [HH.out, hy]; rfl), hb⟩
  | true =>
    go_enter Tryd.func75, Tryd.ntmps75
    go_wp2
    go_ret
    exact ⟨ret_bool' (by rw [HH.out, hy]; rfl), hb⟩

set_option maxHeartbeats 4000000 in
theorem next_any (l : List Edge2) (v : Value) (s : Set7) (w : World) (hI : IsEdges w v l) (hd : ∀ e ∈ l, (1 ≤ e.1 ∧ e.1 ≤ 6) ∧ (1 ≤ e.2 ∧ e.2 ≤ 6)) (hl : l.length ≤ 60) :
    Calls Tryd.prog 58 #[v, .agg #[.bool (s 0), .bool (s 1), .bool (s 2), .bool (s 3), .bool (s 4), .bool (s 5), .bool (s 6)]] w fun e w' => e = .returned (.int .i64 (nextN l s)) ∧ Below w.heap.size w w' := by
  have HI : Hid (∀ W, Below w.heap.size w W → IsEdges W v l) := fun W hW => hI.below hW (Nat.le_refl _)
  have HV : Hid (∃ ad n c, v = .slice ad n c) := by obtain ⟨ad, b, off, cap, rfl, _⟩ := hI; exact ⟨_, _, _, rfl⟩
  obtain ⟨ad, vn, vc, rfl⟩ := HV.out
  have HD : Hid (∀ e ∈ l, (1 ≤ e.1 ∧ e.1 ≤ 6) ∧ (1 ≤ e.2 ∧ e.2 ≤ 6)) := hd
  clear hI hd HV
  go_enter Tryd.func58, Tryd.ntmps58
  go_wp2
  go_loopw [5] (fun v5 wr => ∃ t p : Nat, 1 ≤ t ∧ t ≤ 7 ∧ v5 = .pointer (some ⟨p, 0, none⟩) ∧ NumAt wr p t ∧ w.heap.size < p ∧ BoolsAt wr w.heap.size 7 s ∧ Below w.heap.size w wr ∧ (∀ j, 1 ≤ j → j < t → freeB l s j = false)) (fun v5 wr => 7 - boxN v5 wr)
  case atStart =>
    have hA : Below w.heap.size w (w.alloc (.cells #[.bool (s 0), .bool (s 1), .bool (s 2), .bool (s 3), .bool (s 4), .bool (s 5), .bool (s 6)] 96)) := (Below.refl _ w).alloc (Nat.le_refl _) _
    exact ⟨1, w.heap.size + 1, by omega, by omega, rfl, by simp [NumAt], by omega, (bools7_new w s _).alloc _, hA.alloc (by simp) _, fun j h1 h2 => absurd h1 (by omega)⟩
  case round =>
    obtain ⟨t, p, ht1, ht7, rfl, hn, hpl, hs, hbel, hno⟩ := hrel
    have HNO : Hid (∀ j, 1 ≤ j → j < t → freeB l s j = false) := hno
    have HS : Hid (BoolsAt wr w.heap.size 7 s) := hs
    have HN : Hid (NumAt wr p t) := hn
    have hpr := hn.lt
    obtain ⟨n0, n1⟩ := hn
    have hsz := hbel.size
    clear hno hs
    by_cases hlt : t < 7
    · have ht6 : (t : Int) ≤ 6 := by omega
      have hti : (t : Int) < 7 := by omega
      have c0 := (HS.out t hlt).1
      cases hq : s t with
      | false =>
        have HF : Hid (freeB l s t = false) := by show freeB l s t = false; unfold freeB; rw [hq]; rfl
        rw [hq] at c0
        clear hq
        go_wp2
        go_roundw
        case rel => exact ⟨t + 1, wr.heap.size, by omega, by omega, rfl, num_new _ _ _ (by omega), by omega, HS.out.alloc _, hbel.alloc hsz _, fun j h1 h2 => by
          rcases Nat.lt_or_ge j t with h | h
          · exact HNO.out j h1 h
          · rw [show j = t by omega]; exact HF.out⟩
        case measure => exact box_less n0 (num_new _ _ _ rfl).1 (by omega)
      | true =>
        rw [hq] at c0
        have HC : Hid (Calls Tryd.prog 54 #[.slice ad vn vc, .func (.func 75) #[] #[.pointer (some ⟨p, 0, none⟩), .pointer (some ⟨w.heap.size, 0, none⟩)]] wr fun r w' => r = .returned (.bool (l.any (holdB s t))) ∧ Below wr.heap.size wr w') := contains_next l _ (holdB s t) _ _ wr (HI.out _ hbel) (by omega) fun W hW e he => next1_any e t s p w.heap.size W (HN.out.below hW hpr) (HS.out.below hW (by omega)) (HD.out e he).1
        have HE : Hid (freeB l s t = !l.any (holdB s t)) := by show freeB l s t = _; unfold freeB; rw [hq]; rfl
        clear hq
        go_wp2_with fail
        refine HC.out.mono ?_
        rintro e w1 ⟨rfl, hb1⟩
        have m0 := (HN.out.below hb1 hpr).1
        have hs1 := hb1.size
        have hB1 := hbel.trans (hb1.mono hsz)
        cases ha : l.any (holdB s t) with
        | false =>
          have HR : Hid (nextN l s = t) := next_hit ht1 (by omega) (by rw [HE.out, ha]; rfl) HNO.out
          go_wp2
          go_ret
          exact ⟨by rw [HR.out]; rfl, hB1⟩
        | true =>
          have HF : Hid (freeB l s t = false) := by show freeB l s t = false; rw [HE.out, ha]; rfl
          clear ha
          have hp1 : p < w1.heap.size := by omega
          go_wp2
          go_roundw
          case rel => exact ⟨t + 1, w1.heap.size, by omega, by omega, rfl, num_new _ _ _ (by omega), by omega, (HS.out.below hb1 (by omega)).alloc _, hB1.alloc hB1.size _, fun j h1 h2 => by
            rcases Nat.lt_or_ge j t with h | h
            · exact HNO.out j h1 h
            · rw [show j = t by omega]; exact HF.out⟩
          case measure => exact box_less n0 (num_new _ _ _ rfl).1 (by omega)
    · have ht6 : ¬ (t : Int) ≤ 6 := by omega
      have HR : Hid (nextN l s = 0) := next_none fun j h1 h2 => HNO.out j h1 (by omega)
      go_wp2
      go_ret
      exact ⟨by rw [HR.out]; rfl, hbel⟩
end Go.Proofs.YtmjjiehnjghndaaDoor
