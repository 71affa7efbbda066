/-
  PROVED HERE: graph.Order gives the order that the plain function of the text GraphPlain2 makes of right edges, ErrCycle where it goes around, and of any other edges Check's error. Old memory stays as it was.
  Conditions: none.
  (Of these, what the claim wants: the rest was left out.)
-/
import Derived.Deep.Onto
import Derived.Test.YtmjjiehnjghndaaDoorGraphNext
import Derived.Test.YtmjjiehnjghndaaDoorMgaj
import Derived.Maps.AppendAt
namespace Go.Proofs.YtmjjiehnjghndaaDoor
open Go.RowKit

theorem gcheck_ok (l : List Edge2) (v : Value) (w : World) (hI : IsEdges w v l) (hc : gchk l = 0) :
    Calls Tryd.prog 55 #[v] w fun e w' => e = .returned .nilIface ∧ Below w.heap.size w w' :=
  (gcheck_any l v w hI).mono fun _ _ ⟨he, hb⟩ => ⟨by rw [he, hc]; rfl, hb⟩
/-- The length of a slice value. -/
def sliceN : Value → Nat
  | .slice _ n _ => n
  | _ => 0
theorem own_len {w : World} {base e s n : Nat} {v : Value} {xs : List Value} (h : w.ownsRow base e s v n xs) : sliceN v = n := by
  obtain ⟨_, ⟨hv, hd⟩ | ⟨g, cap, cur, hv, _⟩⟩ := h
  · rw [hv]; show 0 = n; omega
  · rw [hv]; rfl

set_option maxHeartbeats 8000000 in
theorem order_own (l : List Edge2) (v : Value) (w : World) (hI : IsEdges w v l) (hc : gchk l = 0) :
    Calls Tryd.prog 38 #[v] w fun e w' => ((∃ o v', orderL l = some o ∧ e = .returned (.tuple #[v', .nilIface]) ∧ w'.ownsRow w.heap.size 3 1 v' o.length (o.map (Value.int .i64)) ∧ o.length ≤ 7) ∨ (orderL l = none ∧ e = .returned (.tuple #[.slice none 0 0, .iface 50 (.int .i64 8)]))) ∧ Below w.heap.size w w' := by
  have HI : Hid (∀ W, Below w.heap.size w W → IsEdges W v l) := fun W hW => hI.below hW (Nat.le_refl _)
  have hl := gchk_len hc
  have HD : Hid (∀ e ∈ l, (1 ≤ e.1 ∧ e.1 ≤ 6) ∧ (1 ≤ e.2 ∧ e.2 ≤ 6)) := gchk_deal hc
  have HC : Hid (gchk l = 0) := hc
  obtain ⟨i0, hi, hz0, hs0, hy0⟩ := info_parts infoInt
  have HT : Hid (Tryd.prog.info? 3 = some i0 ∧ i0.zero = some (.int .i64 0) ∧ i0.size = 1 ∧ i0.bytes = 8) := ⟨hi, hz0, hs0, hy0⟩
  clear hi hz0 hs0 hy0 hI hc
  go_enter Tryd.func38, Tryd.ntmps38
  go_wp2_with fail
  refine (gcheck_ok l _ _ (HI.out _ (Below.refl _ _)) HC.out).mono ?_
  rintro e w1 ⟨rfl, hb1⟩
  go_wp2_with fail
  refine (named_any l _ _ (HI.out _ hb1) HD.out hl).mono ?_
  rintro e w2 ⟨rfl, hb2⟩
  have hb02 := hb1.trans (hb2.mono hb1.size)
  have HN2 : Hid (w.heap.size ≤ w2.heap.size) := hb02.size
  go_wp2_with fail
  go_loopw [6] (fun v6 wr => ∃ (n : Nat) (s : Set7) (out : List Int), cntS s ≤ n ∧ orderL l = orderGo l n s out ∧ out.length + cntS s ≤ 7 ∧ wr.ownsRow (w2.heap.size + 1) 3 1 v6 out.length (out.map (Value.int .i64)) ∧ BoolsAt wr w2.heap.size 7 s ∧ Below w.heap.size w wr) (fun v6 _ => 8 - sliceN v6)
  case atStart => exact ⟨7, namedS l, [], cnt_le _, rfl, by have := cnt_le (namedS l); simpa using this, World.ownsRow_nil _ _ _ _, bools7_new w2 (namedS l) _, hb02.alloc hb02.size _⟩
  case round =>
    clear hb1 hb2 hb02
    obtain ⟨n, s, out, hn, ho, hlen, hown, hs, hbel⟩ := hrel
    have HN : Hid (cntS s ≤ n ∧ orderL l = orderGo l n s out ∧ out.length + cntS s ≤ 7) := ⟨hn, ho, hlen⟩
    have hol : out.length ≤ 7 := by omega
    have HOWN : Hid (wr.ownsRow (w2.heap.size + 1) 3 1 u6 out.length (out.map (Value.int .i64))) := hown
    have HS : Hid (BoolsAt wr w2.heap.size 7 s) := hs
    have hB := hs.lt (by omega)
    have hsl := own_len hown
    have HSL : Hid (sliceN u6 = out.length) := hsl
    clear hn ho hlen hown hs hsl
    go_wp2_with fail
    refine (contains_bools s w2.heap.size 7 _ HS.out).mono ?_
    rintro e w3 ⟨rfl, hb3⟩
    have hb03 := hbel.trans (hb3.mono hbel.size)
    have HOWN3 : Hid (w3.ownsRow (w2.heap.size + 1) 3 1 u6 out.length (out.map (Value.int .i64))) := own_below HOWN.out hb3 (Nat.le_refl _)
    have HS3 : Hid (BoolsAt w3 w2.heap.size 7 s) := HS.out.below hb3 hB
    have hB3 := HS3.out.lt (by omega)
    clear HOWN HS hB hb3 hbel
    cases hany : anyS s with
    | false =>
      have HR : Hid (orderL l = some out) := by show orderL l = some out; rw [HN.out.2.1, orderGo_end hany]
      clear hany
      go_wp2
      go_ret2
      exact ⟨.inl ⟨out, _, HR.out, rfl, HOWN3.out.mono (by have := HN2.out; omega), hol⟩, hb03⟩
    | true =>
      have HA : Hid (anyS s = true) := hany
      clear hany
      have hc3 : ∀ k, k < 7 → w3.cell? ⟨w2.heap.size, k, none⟩ = some (.bool (s k)) := fun k hk => (HS3.out k hk).1
      go_wp2_with fail
      refine (next_any l _ s _ (HI.out _ hb03) HD.out hl).mono ?_
      rintro e w4 ⟨rfl, hb4⟩
      have hb04 := hb03.trans (hb4.mono hb03.size)
      have HOWN4 : Hid (w4.ownsRow (w2.heap.size + 1) 3 1 u6 out.length (out.map (Value.int .i64))) := own_below HOWN3.out hb4 (Nat.le_refl _)
      have HS4 : Hid (BoolsAt w4 w2.heap.size 7 s) := HS3.out.below hb4 hB3
      have hB4 := HS4.out.lt (by omega)
      clear HOWN3 HS3 hc3 hb4 hb03 hB3
      by_cases h0 : nextN l s = 0
      · have HR : Hid (orderL l = none) := by show orderL l = none; rw [HN.out.2.1, orderGo_stop HN.out.1 HA.out h0]
        rw [h0]
        clear h0
        go_wp2
        go_ret2
        exact ⟨.inr ⟨HR.out, rfl⟩, hb04⟩
      · have hnx := next_cases l s
        obtain ⟨t, ht⟩ : ∃ t, nextN l s = t := ⟨_, rfl⟩
        have HR : Hid (orderL l = orderGo l (n - 1) (setS s t false) (out ++ [(t : Int)])) := by show orderL l = _; rw [HN.out.2.1, orderGo_on HN.out.1 HA.out h0, ht]
        rw [ht] at hnx h0 ⊢
        have ht6 : 1 ≤ t ∧ t ≤ 6 ∧ s t = true := by
          rcases hnx with ⟨h, _⟩ | ⟨h1, h2, h3, _⟩
          · exact absurd h h0
          · exact ⟨h1, h2, by unfold freeB at h3; cases hst : s t with | true => rfl | false => rw [hst] at h3; cases h3⟩
        obtain ⟨ht1, ht6, hst⟩ := ht6
        have HC2 : Hid (cntS (setS s t false) + 1 = cntS s) := cnt_set (by omega) hst
        obtain ⟨c0, z0⟩ := HS4.out t (by omega)
        have ht0 : ((t : Int) == 0) = false := by simpa using h0
        have ht7 : (t : Int) < 7 := by omega
        have hsz4 := hb04.size
        clear hnx ht h0 hst
        go_wp2_with (at_builtin; refine wpList_append_own _ rfl (.tmp 25) (.tmp 27) 26 rfl (w2.heap.size + 1) 3 i0 (.int .i64 0) 1 8 Tryd.underlying26 HT.out.1 HT.out.2.1 HT.out.2.2.1 HT.out.2.2.2 rfl (by decide) u6 out.length (out.map (Value.int .i64)) rfl ((ownsRow_setCell_below HOWN4.out (by simp) _).alloc _) ⟨w4.heap.size, 0, none⟩ 1 1 [.int .i64 t] rfl rfl (by have := cell_one_new (w4.setCell ⟨w2.heap.size, t, none⟩ (.bool false)) (.int .i64 t) 3; simpa using this) (by simp [Value.oneCell']) (by unfold maxLen; omega) (by omega) (by simp; omega) ?_; intro v' w5 hown5 hgr5 hnil5)
        have hBn : u6.ownBlock ≠ some w2.heap.size := fun e => by have := (HOWN4.out.lt _ e).1; omega
        have hb5 : Below w.heap.size w w5 := ((hb04.setCell HN2.out _).alloc (by simpa using hsz4) _).grown hgr5 (by simp; omega) (fun m hm => by have := (HOWN4.out.lt m hm).1; have := HN2.out; omega)
        have hs5 : BoolsAt w5 w2.heap.size 7 (setS s t false) := ((HS4.out.set false (by omega)).alloc _).grown hgr5 (by simp; omega) hBn
        have hl5 := own_len hown5
        refine ⟨⟨n - 1, setS s t false, out ++ [(t : Int)], ?_, HR.out, ?_, ?_, hs5, hb5⟩, ?_⟩
        · have := HC2.out; have := HN.out.1; omega
        · have := HC2.out; have := HN.out.2.2; simp; omega
        · simpa using hown5
        · rw [hl5, HSL.out]; omega
end Go.Proofs.YtmjjiehnjghndaaDoor
