/-
  PROVED HERE: slices.Index and slices.Contains on a row of bools; graph.next gives the least deal that waits for nobody who is waiting, 0 if there is none. Old memory stays as it was.
  Conditions: none.
  PROVED HERE: graph.Order gives the order that the plain function of the text GraphPlain2 makes of right edges, ErrCycle where it goes around, and of any other edges Check's error. Old memory stays as it was.
  Conditions: none.
  (Of these, what the claim wants: the rest was left out.)
-/
import Derived.Test.YtmjjiehnjghndaaGreatMgbc
import Derived.Test.YtmjjiehnjghndaaGreatMgao
import Derived.Deep.Onto
import Derived.Test.YtmjjiehnjghndaaGreatMgae
import Derived.Maps.AppendAt
namespace Go.Proofs.YtmjjiehnjghndaaGreat
open Go.RowKit

/-- A number in a block of its own. -/
def NumAt (w : World) (p : Nat) (t : Int) : Prop := w.cell? ⟨p, 0, none⟩ = some (.int .i64 t) ∧ w.frozen? ⟨p, 0, none⟩ = false
theorem NumAt.lt {w : World} {p : Nat} {t : Int} (h : NumAt w p t) : p < w.heap.size := by
  have := World.block_lt_of_cell? w _ h.1
  simpa using this
theorem NumAt.below {w w1 : World} {p B : Nat} {t : Int} (h : NumAt w p t) (hb : Below B w w1) (hB : p < B) : NumAt w1 p t := by
  unfold NumAt
  rw [hb.cell (p := ⟨p, 0, none⟩) hB, hb.frozen (p := ⟨p, 0, none⟩) hB]; exact h
theorem num_new (w : World) (x : Int) (t : Nat) (h : x = t) : NumAt (w.alloc (.cells #[.int .i64 x] 3)) w.heap.size t := by
  subst h
  simp [NumAt]
/-- The number that a pointer leads to. -/
def boxN (v : Value) (w : World) : Nat := match v with
  | .pointer (some a) => (match w.cell? a with
    | some (.int _ i) => i.toNat
    | _ => 0)
  | _ => 0
theorem box_at {a : Addr} {w : World} {t : Nat} (h : w.cell? a = some (.int .i64 t)) : boxN (.pointer (some a)) w = t := by simp [boxN, h]
theorem box_less {a c : Addr} {w w1 : World} {t : Nat} (h : w.cell? a = some (.int .i64 t)) (h1 : w1.cell? c = some (.int .i64 ((t + 1 : Nat) : Int))) (ht : t < 7) : 7 - boxN (.pointer (some c)) w1 < 7 - boxN (.pointer (some a)) w := by
  rw [box_at h, box_at h1]; omega
theorem anyTo_snoc {s : Set7} {k : Nat} (h : (List.range k).any s = false) (h1 : s k = false) : (List.range (k + 1)).any s = false := by
  rw [List.range_succ, List.any_append, h]; simp [h1]
theorem anyTo_hit {s : Set7} {k n : Nat} (hk : k < n) (h : s k = true) : (List.range n).any s = true := List.any_eq_true.2 ⟨k, List.mem_range.2 hk, h⟩

set_option maxHeartbeats 2000000 in
theorem index_bools (s : Set7) (b cap : Nat) (w : World) (h : BoolsAt w b 7 s) :
    Calls Tryz.prog 66 #[.slice (some ⟨b, 0, none⟩) 7 cap, .bool true] w fun e w' => ∃ n : Int, e = .returned (.int .i64 n) ∧ decide (0 ≤ n) = anyS s ∧ Below w.heap.size w w' := by
  have HB : Hid (BoolsAt w b 7 s) := h
  have hbl := h.lt (by omega)
  clear h
  go_enter Tryz.func66, Tryz.ntmps66
  go_wp2
  go_loopw [8] (fun v8 wr => ∃ k : Nat, k ≤ 7 ∧ v8 = .int .i64 k ∧ (List.range k).any s = false ∧ Below w.heap.size w wr) (fun v8 _ => 7 - (intOf v8).toNat)
  case atStart => exact ⟨0, by omega, rfl, rfl, Below.refl _ _⟩
  case round =>
    obtain ⟨k, hk, rfl, hno, hbel⟩ := hrel
    have HNO : Hid ((List.range k).any s = false) := hno
    clear hno
    by_cases hlt : k < 7
    · have c0 := ((HB.out.below hbel hbl) k hlt).1
      have hk7 : (k : Int) < 7 := by omega
      cases hq : s k with
      | false =>
        rw [hq] at c0
        have HQ : Hid (s k = false) := hq
        clear hq
        go_wp2
        go_roundw
        case rel => exact ⟨k + 1, by omega, by go_num, anyTo_snoc HNO.out HQ.out, hbel⟩
        case measure => simp [intOf]; omega
      | true =>
        rw [hq] at c0
        have HQ : Hid (anyS s = true) := anyTo_hit hlt hq
        clear hq
        go_wp2
        go_ret
        exact ⟨_, rfl, by rw [HQ.out]; simp, hbel⟩
    · have HQ : Hid (anyS s = false) := by
        have h0 := HNO.out
        rw [show k = 7 by omega] at h0
        exact h0
      have hk7 : ¬ (k : Int) < 7 := by omega
      go_wp2
      go_ret
      exact ⟨_, rfl, by rw [HQ.out]; rfl, hbel⟩
theorem contains_bools (s : Set7) (b cap : Nat) (w : World) (h : BoolsAt w b 7 s) :
    Calls Tryz.prog 46 #[.slice (some ⟨b, 0, none⟩) 7 cap, .bool true] w fun e w' => e = .returned (.bool (anyS s)) ∧ Below w.heap.size w w' := by
  have HC := index_bools s b cap w h
  clear h
  go_enter Tryz.func46, Tryz.ntmps46
  go_wp2_with (go_at_call 66; refine HC.mono ?_; rintro e w1 ⟨n, rfl, hn, hb1⟩)
  all_goals go_ret
  all_goals exact ⟨ret_bool' (by simp_all), hb1⟩

set_option maxHeartbeats 2000000 in
theorem next1_any (e : Edge2) (t : Nat) (s : Set7) (p q : Nat) (w : World) (hp : NumAt w p t) (hq : BoolsAt w q 7 s) (he : 1 ≤ e.1 ∧ e.1 ≤ 6) :
    Calls Tryz.prog 67 #[.agg #[.int .i64 e.1, .int .i64 e.2], .pointer (some ⟨p, 0, none⟩), .pointer (some ⟨q, 0, none⟩)] w fun r w' => r = .returned (.bool (holdB s t e)) ∧ Below w.heap.size w w' := by
  obtain ⟨x, y⟩ := e
  obtain ⟨x, rfl⟩ : ∃ n : Nat, x = n := ⟨x.toNat, by simp only at he; omega⟩
  simp only at he
  have HH : Hid (holdB s t ((x : Int), y) = (y == (t : Int) && s x)) := by show holdB s t ((x : Int), y) = _; simp [holdB]
  have hb : Below w.heap.size w (w.alloc (.cells #[.int .i64 x, .int .i64 y] 80)) := (Below.refl _ w).alloc (Nat.le_refl _) _
  have c0 := hp.1
  have hpl := hp.lt
  have c1 := (hq x (by omega)).1
  have hql := hq.lt (by omega)
  have hx7 : (x : Int) < 7 := by omega
  clear hp hq
  cases hy : (y == (t : Int)) with
  | false =>
    go_enter Tryz.func67, Tryz.ntmps67
    go_wp2
    go_ret
    exact ⟨ret_bool' (by rw [HH.out, hy]; rfl), hb⟩
  | true =>
    go_enter Tryz.func67, Tryz.ntmps67
    go_wp2
    go_ret
    exact ⟨ret_bool' (by rw [HH.out, hy]; rfl), hb⟩

set_option maxHeartbeats 4000000 in
theorem next_any (l : List Edge2) (v : Value) (s : Set7) (w : World) (hI : IsEdges w v l) (hd : ∀ e ∈ l, (1 ≤ e.1 ∧ e.1 ≤ 6) ∧ (1 ≤ e.2 ∧ e.2 ≤ 6)) (hl : l.length ≤ 60) :
    Calls Tryz.prog 47 #[v, .agg #[.bool (s 0), .bool (s 1), .bool (s 2), .bool (s 3), .bool (s 4), .bool (s 5), .bool (s 6)]] w fun e w' => e = .returned (.int .i64 (nextN l s)) ∧ Below w.heap.size w w' := by
  have HI : Hid (∀ W, Below w.heap.size w W → IsEdges W v l) := fun W hW => hI.below hW (Nat.le_refl _)
  have HV : Hid (∃ ad n c, v = .slice ad n c) := by obtain ⟨ad, b, off, cap, rfl, _⟩ := hI; exact ⟨_, _, _, rfl⟩
  obtain ⟨ad, vn, vc, rfl⟩ := HV.out
  have HD : Hid (∀ e ∈ l, (1 ≤ e.1 ∧ e.1 ≤ 6) ∧ (1 ≤ e.2 ∧ e.2 ≤ 6)) := hd
  clear hI hd HV
  go_enter Tryz.func47, Tryz.ntmps47
  go_wp2
  go_loopw [5] (fun v5 wr => ∃ t p : Nat, 1 ≤ t ∧ t ≤ 7 ∧ v5 = .pointer (some ⟨p, 0, none⟩) ∧ NumAt wr p t ∧ w.heap.size < p ∧ BoolsAt wr w.heap.size 7 s ∧ Below w.heap.size w wr ∧ (∀ j, 1 ≤ j → j < t → freeB l s j = false)) (fun v5 wr => 7 - boxN v5 wr)
  case atStart =>
    have hA : Below w.heap.size w (w.alloc (.cells #[.bool (s 0), .bool (s 1), .bool (s 2), .bool (s 3), .bool (s 4), .bool (s 5), .bool (s 6)] 84)) := (Below.refl _ w).alloc (Nat.le_refl _) _
    exact ⟨1, w.heap.size + 1, by omega, by omega, rfl, by simp [NumAt], by omega, (bools7_new w s _).alloc _, hA.alloc (by simp) _, fun j h1 h2 => absurd h1 (by omega)⟩
  case round =>
    obtain ⟨t, p, ht1, ht7, rfl, hn, hpl, hs, hbel, hno⟩ := hrel
    have HNO : Hid (∀ j, 1 ≤ j → j < t → freeB l s j = false) := hno
    have HS : Hid (BoolsAt wr w.heap.size 7 s) := hs
    have HN : Hid (NumAt wr p t) := hn
    have hpr := hn.lt
    obtain ⟨n0, n1⟩ := hn
    have hsz := hbel.size
    clear hno hs
    by_cases hlt : t < 7
    · have ht6 : (t : Int) ≤ 6 := by omega
      have hti : (t : Int) < 7 := by omega
      have c0 := (HS.out t hlt).1
      cases hq : s t with
      | false =>
        have HF : Hid (freeB l s t = false) := by show freeB l s t = false; unfold freeB; rw [hq]; rfl
        rw [hq] at c0
        clear hq
        go_wp2
        go_roundw
        case rel => exact ⟨t + 1, wr.heap.size, by omega, by omega, rfl, num_new _ _ _ (by omega), by omega, HS.out.alloc _, hbel.alloc hsz _, fun j h1 h2 => by
          rcases Nat.lt_or_ge j t with h | h
          · exact HNO.out j h1 h
          · rw [show j = t by omega]; exact HF.out⟩
        case measure => exact box_less n0 (num_new _ _ _ rfl).1 (by omega)
      | true =>
        rw [hq] at c0
        have HC : Hid (Calls Tryz.prog 43 #[.slice ad vn vc, .func (.func 67) #[] #[.pointer (some ⟨p, 0, none⟩), .pointer (some ⟨w.heap.size, 0, none⟩)]] wr fun r w' => r = .returned (.bool (l.any (holdB s t))) ∧ Below wr.heap.size wr w') := contains_next l _ (holdB s t) _ _ wr (HI.out _ hbel) (by omega) fun W hW e he => next1_any e t s p w.heap.size W (HN.out.below hW hpr) (HS.out.below hW (by omega)) (HD.out e he).1
        have HE : Hid (freeB l s t = !l.any (holdB s t)) := by show freeB l s t = _; unfold freeB; rw [hq]; rfl
        clear hq
        go_wp2_with fail
        refine HC.out.mono ?_
        rintro e w1 ⟨rfl, hb1⟩
        have m0 := (HN.out.below hb1 hpr).1
        have hs1 := hb1.size
        have hB1 := hbel.trans (hb1.mono hsz)
        cases ha : l.any (holdB s t) with
        | false =>
          have HR : Hid (nextN l s = t) := next_hit ht1 (by omega) (by rw [HE.out, ha]; rfl) HNO.out
          go_wp2
          go_ret
          exact ⟨by rw [HR.out]; rfl, hB1⟩
        | true =>
          have HF : Hid (freeB l s t = false) := by show freeB l s t = false; rw [HE.out, ha]; rfl
          clear ha
          have hp1 : p < w1.heap.size := by omega
          go_wp2
          go_roundw
          case rel => exact ⟨t + 1, w1.heap.size, by omega, by omega, rfl, num_new _ _ _ (by omega), by omega, (HS.out.below hb1 (by omega)).alloc _, hB1.alloc hB1.size _, fun j h1 h2 => by
            rcases Nat.lt_or_ge j t with h | h
            · exact HNO.out j h1 h
            · rw [show j = t by omega]; exact HF.out⟩
          case measure => exact box_less n0 (num_new _ _ _ rfl).1 (by omega)
    · have ht6 : ¬ (t : Int) ≤ 6 := by omega
      have HR : Hid (nextN l s = 0) := next_none fun j h1 h2 => HNO.out j h1 (by omega)
      go_wp2
      go_ret
      exact ⟨by rw [HR.out]; rfl, hbel⟩
end Go.Proofs.YtmjjiehnjghndaaGreat

namespace Go.Proofs.YtmjjiehnjghndaaGreat
open Go.RowKit

theorem gcheck_ok (l : List Edge2) (v : Value) (w : World) (hI : IsEdges w v l) (hc : gchk l = 0) :
    Calls Tryz.prog 44 #[v] w fun e w' => e = .returned .nilIface ∧ Below w.heap.size w w' :=
  (gcheck_any l v w hI).mono fun _ _ ⟨he, hb⟩ => ⟨by rw [he, hc]; rfl, hb⟩
/-- The length of a slice value. -/
def sliceN : Value → Nat
  | .slice _ n _ => n
  | _ => 0
theorem own_len {w : World} {base e s n : Nat} {v : Value} {xs : List Value} (h : w.ownsRow base e s v n xs) : sliceN v = n := by
  obtain ⟨_, ⟨hv, hd⟩ | ⟨g, cap, cur, hv, _⟩⟩ := h
  · rw [hv]; show 0 = n; omega
  · rw [hv]; rfl

set_option maxHeartbeats 8000000 in
theorem order_own (l : List Edge2) (v : Value) (w : World) (hI : IsEdges w v l) (hc : gchk l = 0) :
    Calls Tryz.prog 22 #[v] w fun e w' => ((∃ o v', orderL l = some o ∧ e = .returned (.tuple #[v', .nilIface]) ∧ w'.ownsRow w.heap.size 3 1 v' o.length (o.map (Value.int .i64)) ∧ o.length ≤ 7) ∨ (orderL l = none ∧ e = .returned (.tuple #[.slice none 0 0, .iface 43 (.int .i64 8)]))) ∧ Below w.heap.size w w' := by
  have HI : Hid (∀ W, Below w.heap.size w W → IsEdges W v l) := fun W hW => hI.below hW (Nat.le_refl _)
  have hl := gchk_len hc
  have HD : Hid (∀ e ∈ l, (1 ≤ e.1 ∧ e.1 ≤ 6) ∧ (1 ≤ e.2 ∧ e.2 ≤ 6)) := gchk_deal hc
  have HC : Hid (gchk l = 0) := hc
  obtain ⟨i0, hi, hz0, hs0, hy0⟩ := info_parts infoInt
  have HT : Hid (Tryz.prog.info? 3 = some i0 ∧ i0.zero = some (.int .i64 0) ∧ i0.size = 1 ∧ i0.bytes = 8) := ⟨hi, hz0, hs0, hy0⟩
  clear hi hz0 hs0 hy0 hI hc
  go_enter Tryz.func22, Tryz.ntmps22
  go_wp2_with fail
  refine (gcheck_ok l _ _ (HI.out _ (Below.refl _ _)) HC.out).mono ?_
  rintro e w1 ⟨rfl, hb1⟩
  go_wp2_with fail
  refine (named_any l _ _ (HI.out _ hb1) HD.out hl).mono ?_
  rintro e w2 ⟨rfl, hb2⟩
  have hb02 := hb1.trans (hb2.mono hb1.size)
  have HN2 : Hid (w.heap.size ≤ w2.heap.size) := hb02.size
  go_wp2_with fail
  go_loopw [6] (fun v6 wr => ∃ (n : Nat) (s : Set7) (out : List Int), cntS s ≤ n ∧ orderL l = orderGo l n s out ∧ out.length + cntS s ≤ 7 ∧ wr.ownsRow (w2.heap.size + 1) 3 1 v6 out.length (out.map (Value.int .i64)) ∧ BoolsAt wr w2.heap.size 7 s ∧ Below w.heap.size w wr) (fun v6 _ => 8 - sliceN v6)
  case atStart => exact ⟨7, namedS l, [], cnt_le _, rfl, by have := cnt_le (namedS l); simpa using this, World.ownsRow_nil _ _ _ _, bools7_new w2 (namedS l) _, hb02.alloc hb02.size _⟩
  case round =>
    clear hb1 hb2 hb02
    obtain ⟨n, s, out, hn, ho, hlen, hown, hs, hbel⟩ := hrel
    have HN : Hid (cntS s ≤ n ∧ orderL l = orderGo l n s out ∧ out.length + cntS s ≤ 7) := ⟨hn, ho, hlen⟩
    have hol : out.length ≤ 7 := by omega
    have HOWN : Hid (wr.ownsRow (w2.heap.size + 1) 3 1 u6 out.length (out.map (Value.int .i64))) := hown
    have HS : Hid (BoolsAt wr w2.heap.size 7 s) := hs
    have hB := hs.lt (by omega)
    have hsl := own_len hown
    have HSL : Hid (sliceN u6 = out.length) := hsl
    clear hn ho hlen hown hs hsl
    go_wp2_with fail
    refine (contains_bools s w2.heap.size 7 _ HS.out).mono ?_
    rintro e w3 ⟨rfl, hb3⟩
    have hb03 := hbel.trans (hb3.mono hbel.size)
    have HOWN3 : Hid (w3.ownsRow (w2.heap.size + 1) 3 1 u6 out.length (out.map (Value.int .i64))) := own_below HOWN.out hb3 (Nat.le_refl _)
    have HS3 : Hid (BoolsAt w3 w2.heap.size 7 s) := HS.out.below hb3 hB
    have hB3 := HS3.out.lt (by omega)
    clear HOWN HS hB hb3 hbel
    cases hany : anyS s with
    | false =>
      have HR : Hid (orderL l = some out) := by show orderL l = some out; rw [HN.out.2.1, orderGo_end hany]
      clear hany
      go_wp2
      go_ret2
      exact ⟨.inl ⟨out, _, HR.out, rfl, HOWN3.out.mono (by have := HN2.out; omega), hol⟩, hb03⟩
    | true =>
      have HA : Hid (anyS s = true) := hany
      clear hany
      have hc3 : ∀ k, k < 7 → w3.cell? ⟨w2.heap.size, k, none⟩ = some (.bool (s k)) := fun k hk => (HS3.out k hk).1
      go_wp2_with fail
      refine (next_any l _ s _ (HI.out _ hb03) HD.out hl).mono ?_
      rintro e w4 ⟨rfl, hb4⟩
      have hb04 := hb03.trans (hb4.mono hb03.size)
      have HOWN4 : Hid (w4.ownsRow (w2.heap.size + 1) 3 1 u6 out.length (out.map (Value.int .i64))) := own_below HOWN3.out hb4 (Nat.le_refl _)
      have HS4 : Hid (BoolsAt w4 w2.heap.size 7 s) := HS3.out.below hb4 hB3
      have hB4 := HS4.out.lt (by omega)
      clear HOWN3 HS3 hc3 hb4 hb03 hB3
      by_cases h0 : nextN l s = 0
      · have HR : Hid (orderL l = none) := by show orderL l = none; rw [HN.out.2.1, orderGo_stop HN.out.1 HA.out h0]
        rw [h0]
        clear h0
        go_wp2
        go_ret2
        exact ⟨.inr ⟨HR.out, rfl⟩, hb04⟩
      · have hnx := next_cases l s
        obtain ⟨t, ht⟩ : ∃ t, nextN l s = t := ⟨_, rfl⟩
        have HR : Hid (orderL l = orderGo l (n - 1) (setS s t false) (out ++ [(t : Int)])) := by show orderL l = _; rw [HN.out.2.1, orderGo_on HN.out.1 HA.out h0, ht]
        rw [ht] at hnx h0 ⊢
        have ht6 : 1 ≤ t ∧ t ≤ 6 ∧ s t = true := by
          rcases hnx with ⟨h, _⟩ | ⟨h1, h2, h3, _⟩
          · exact absurd h h0
          · exact ⟨h1, h2, by unfold freeB at h3; cases hst : s t with | true => rfl | false => rw [hst] at h3; cases h3⟩
        obtain ⟨ht1, ht6, hst⟩ := ht6
        have HC2 : Hid (cntS (setS s t false) + 1 = cntS s) := cnt_set (by omega) hst
        obtain ⟨c0, z0⟩ := HS4.out t (by omega)
        have ht0 : ((t : Int) == 0) = false := by simpa using h0
        have ht7 : (t : Int) < 7 := by omega
        have hsz4 := hb04.size
        clear hnx ht h0 hst
        go_wp2_with (at_builtin; refine wpList_append_own _ rfl (.tmp 25) (.tmp 27) 28 rfl (w2.heap.size + 1) 3 i0 (.int .i64 0) 1 8 Tryz.underlying28 HT.out.1 HT.out.2.1 HT.out.2.2.1 HT.out.2.2.2 rfl (by decide) u6 out.length (out.map (Value.int .i64)) rfl ((ownsRow_setCell_below HOWN4.out (by simp) _).alloc _) ⟨w4.heap.size, 0, none⟩ 1 1 [.int .i64 t] rfl rfl (by have := cell_one_new (w4.setCell ⟨w2.heap.size, t, none⟩ (.bool false)) (.int .i64 t) 3; simpa using this) (by simp [Value.oneCell']) (by unfold maxLen; omega) (by omega) (by simp; omega) ?_; intro v' w5 hown5 hgr5 hnil5)
        have hBn : u6.ownBlock ≠ some w2.heap.size := fun e => by have := (HOWN4.out.lt _ e).1; omega
        have hb5 : Below w.heap.size w w5 := ((hb04.setCell HN2.out _).alloc (by simpa using hsz4) _).grown hgr5 (by simp; omega) (fun m hm => by have := (HOWN4.out.lt m hm).1; have := HN2.out; omega)
        have hs5 : BoolsAt w5 w2.heap.size 7 (setS s t false) := ((HS4.out.set false (by omega)).alloc _).grown hgr5 (by simp; omega) hBn
        have hl5 := own_len hown5
        refine ⟨⟨n - 1, setS s t false, out ++ [(t : Int)], ?_, HR.out, ?_, ?_, hs5, hb5⟩, ?_⟩
        · have := HC2.out; have := HN.out.1; omega
        · have := HC2.out; have := HN.out.2.2; simp; omega
        · simpa using hown5
        · rw [hl5, HSL.out]; omega
end Go.Proofs.YtmjjiehnjghndaaGreat
