/-
  PROVED HERE: lanetop.TopSwaps returns true, whatever the list of ops and the places; old memory stays as it was.
  Conditions: play.Values' contract (ValuesOk), which the text that speaks of package play proves.
-/
import Derived.Test.YtgnbejemhdcemadSwapsPlain
import Derived.Test.YtgnbejemhdcemadPlayAsk
import Derived.Test.YtgnbejemhdcemadOddSwap
import Derived.Test.YtgnbejemhdcemadLooks
import Derived.Test.YtgnbejemhdcemadSerOrder
import Derived.Test.YtgnbejemhdcemadSames
import Derived.Test.YtgnbejemhdcemadFuncs
import Derived.Test.YtgnbejemhdcemadSameEdges
import Derived.BigQuiet
namespace Go.Proofs.Ytgnbejemhdcemad
open Go.RowKit

theorem top_four_at (w : World) : OpsAt (w.alloc (.cells #[.int .i64 2, .int .i64 2, .int .i64 1, .int .i64 2, .int .i64 3, .int .i64 0, .int .i64 1, .int .i64 1, .int .i64 1, .int .i64 1, .int .i64 3, .int .i64 0] 24)) w.heap.size 0 [(2, 2, 1), (2, 3, 0), (1, 1, 1), (1, 3, 0)] := by
  intro i hi
  match i, hi with
  | 0, _ => simp
  | 1, _ => simp
  | 2, _ => simp
  | 3, _ => simp
theorem top_fact (w : World) (b : Nat) (hb : b = w.heap.size) :
    Calls Try.prog 8 #[.slice (some ⟨b, 0, none⟩) 4 4] (w.alloc (.cells #[.int .i64 2, .int .i64 2, .int .i64 1, .int .i64 2, .int .i64 3, .int .i64 0, .int .i64 1, .int .i64 1, .int .i64 1, .int .i64 1, .int .i64 3, .int .i64 0] 24)) fun e w' => ∃ b1 o1 c1, e = .returned (.tuple #[.slice (some ⟨b1, o1, none⟩) 2 c1, .nilIface]) ∧ w'.cell? ⟨b1, o1, none⟩ = some (.int .i64 2) ∧ Below w.heap.size w w' := by
  subst hb
  have hs : serOrd (doneL [(2, 2, 1), (2, 3, 0), (1, 1, 1), (1, 3, 0)]) = some [2, 1] := by decide +kernel
  refine (ord_any [(2, 2, 1), (2, 3, 0), (1, 1, 1), (1, 3, 0)] (.slice (some ⟨w.heap.size, 0, none⟩) 4 4) _ ⟨some ⟨w.heap.size, 0, none⟩, w.heap.size, 0, 4, rfl, fun _ => rfl, fun h => (by cases h), .inl (by simp), top_four_at w⟩ (by decide +kernel)).mono ?_
  rintro e w' ⟨⟨o, v', ho, rfl, hI⟩ | ⟨hn, -⟩, hb'⟩
  · rw [hs] at ho
    obtain rfl := Option.some.inj ho
    obtain ⟨ad, b, off, cap, rfl, ha, _, _, hops⟩ := hI
    obtain rfl := ha (by simp)
    exact ⟨b, off, cap, rfl, by simpa using hops 0 (by simp), ((Below.refl _ w).alloc (Nat.le_refl _) _).trans (hb'.mono (by simp))⟩
  · rw [hs] at hn; cases hn
set_option maxHeartbeats 2000000 in
theorem one_any (w : World) : Calls Try.prog 18 #[] w fun e w' => e = .returned (.bool true) ∧ Below w.heap.size w w' := by
  go_enter Try.func18, Try.ntmps18
  go_wp2_with fail
  refine (top_fact _ _ (by simp)).mono ?_
  rintro e w1 ⟨b1, o1, c1, rfl, hc1, hb1⟩
  go_wp2_with fail
  go_ret
  exact ⟨rfl, hb1⟩

/-- A list of ops put behind no ops: a list of one's own. -/
theorem wpList_append_ops {ops : Array Oper} {rest : List Oper} {o : Oper} {a : Act} {Q : Exit → Act → World → Prop} (w : World) (hgd : o.guard = none) (s x : Operand)
    (ho : o.op = .call { callee := .builtin .append, args := #[s, x], argTypes := #[22, 22] }) (l : List Op3) (v : Value) (hs : a.eval s = .slice none 0 0) (hx : a.eval x = v) (hI : IsOps w v l) (hl : l.length ≤ 40)
    (h : ∀ v' w', IsOps w' v' l → Below w.heap.size w w' → wpList Try.prog ops Q rest (a.put o.dst v') w') : wpList Try.prog ops Q (o :: rest) a w := by
  obtain ⟨i0, hi, hz0, hs0, hy0⟩ := info_parts infoOp
  obtain ⟨ad, b, off, cap, rfl, ha, hn, hbB, hops⟩ := hI
  cases ad with
  | none =>
    obtain ⟨h0, rfl⟩ := hn rfl
    obtain rfl := List.length_eq_zero_iff.1 h0
    exact wpList_append_own_none hgd s x 22 ho w.heap.size 24 i0 3 Try.underlying22 hi (.slice none 0 0) 0 [] hs (World.ownsRow_nil _ _ _ _) hx (h _ _ (isOps_nil _) (Below.refl _ _))
  | some ad =>
    refine wpList_append_own _ hgd s x 22 ho w.heap.size 24 i0 (.agg #[.int .i64 0, .int .i64 0, .int .i64 0]) 3 24 Try.underlying22 hi hz0 hs0 hy0 rfl (by decide) (.slice none 0 0) 0 [] hs (World.ownsRow_nil _ _ _ _) ad l.length cap (flat l) hx (flat_length l) ?_ (flat_one _) (by unfold maxLen; omega) (by omega) (Nat.le_refl _) ?_
    · intro j u hj
      have hp : 0 < l.length := by
        rcases Nat.eq_zero_or_pos l.length with h0 | h0
        · obtain rfl := List.length_eq_zero_iff.1 h0
          simp [flat] at hj
        · exact h0
      obtain rfl := Option.some.inj (ha hp)
      rw [Addr.add_lit]
      exact hops.flat j u hj
    · intro v' w' hown hgr _
      rw [Nat.zero_add, List.nil_append] at hown
      exact h v' w' (isOps_own hown rfl) ((Below.refl _ w).grown hgr (Nat.le_refl _) (fun q hq => by cases hq))

set_option maxHeartbeats 8000000 in
set_option maxRecDepth 100000 in
theorem top_bad (l : List Op3) (v u : Value) (w : World) (hI : IsOps w v l) (hc : (chk l).2 ≠ 0) :
    Calls Try.prog 6 #[v, u] w fun e w' => e = .returned (.bool true) ∧ Below w.heap.size w w' := by
  have HI : Hid (∀ W, Below w.heap.size w W → IsOps W v l) := fun W hW => hI.below hW (Nat.le_refl _)
  have HC : Hid ((chk l).2 ≠ 0) := hc
  clear hI hc
  go_enter Try.func6, Try.ntmps6
  go_wp2_with fail
  refine (one_any _).mono ?_
  rintro e w1 ⟨rfl, hb1⟩
  go_wp2_with fail
  refine (check_bad l _ _ (HI.out _ hb1) HC.out).mono ?_
  rintro e w2 ⟨rfl, hb2⟩
  have hb02 := hb1.trans (hb2.mono hb1.size)
  go_wp2_with fail
  go_ret
  exact ⟨rfl, hb02⟩

set_option maxHeartbeats 8000000 in
set_option maxRecDepth 100000 in
theorem top_ok (hVal : ValuesOk) (l : List Op3) (p : List Int) (v u : Value) (w : World) (hI : IsOps w v l) (hu : IsInts w u p) (hc : (chk l).2 = 0) :
    Calls Try.prog 6 #[v, u] w fun e w' => e = .returned (.bool true) ∧ Below w.heap.size w w' := by
  have HI : Hid (∀ W, Below w.heap.size w W → IsOps W v l) := fun W hW => hI.below hW (Nat.le_refl _)
  have HCH : Hid (∀ W, Below w.heap.size w W → Calls Try.prog 19 #[v] W fun e w' => ∃ n : Int, e = .returned (.tuple #[.int .i64 n, .nilIface]) ∧ Below W.heap.size W w') := fun W hW => (check_ok l v W (HI.out W hW) hc).mono fun e w' ⟨h1, h2⟩ => ⟨_, h1, h2⟩
  have HLEN : Hid (l.length ≤ 40 ∧ Like l l) := ⟨chk_len hc, Like.start hc⟩
  have HE : Hid (∀ W, Below w.heap.size w W → Calls Try.prog 21 #[v] W fun e w' => ∃ v', e = .returned (.tuple #[v', .nilIface]) ∧ IsEdges w' v' (edgesTo (doneL l) 36) ∧ Below W.heap.size W w') := fun W hW => edges_ok l v W (HI.out W hW) hc
  have HEG : Hid (∀ W x g, Like l g → IsOps W x g → Calls Try.prog 21 #[x] W fun e w' => ∃ v', e = .returned (.tuple #[v', .nilIface]) ∧ IsEdges w' v' (edgesTo (doneL l) 36) ∧ Below W.heap.size W w') := fun W x g hL hx => by
    have := edges_ok g x W hx hL.right
    rw [hL.edges] at this
    exact this
  have HM : Hid (∀ W x g, Like l g → Below w.heap.size w W → IsOps W x g → Calls Try.prog 14 #[v, x] W fun e w' => e = .returned (.tuple #[.bool true, .nilIface]) ∧ Below W.heap.size W w') := fun W x g hL hW hx => by
    have := same_ok l g v x W (HI.out W hW) hx hc hL.right
    rw [(hL.all hc).1] at this
    exact this
  have HVM : Hid (∀ W x g, Like l g → Below w.heap.size w W → IsOps W x g → Calls Try.prog 11 #[v, x] W fun e w' => e = .returned (.tuple #[.bool true, .nilIface]) ∧ Below W.heap.size W w') := fun W x g hL hW hx => by
    have := vsame_ok l g v x W (HI.out W hW) hx hc hL.right
    rw [(hL.all hc).2.1] at this
    exact this
  have HV : Hid (∀ W, Below w.heap.size w W → Calls Try.prog 12 #[v] W fun e w' => ∃ v', e = .returned (.tuple #[v', .nilIface]) ∧ IsInts w' v' (valsL (doneL l)) ∧ Below W.heap.size W w') := fun W hW => hVal l v W (HI.out W hW) hc
  have HVG : Hid (∀ W x g, Like l g → IsOps W x g → Calls Try.prog 12 #[x] W fun e w' => ∃ v', e = .returned (.tuple #[v', .nilIface]) ∧ IsInts w' v' (valsL (doneL l)) ∧ Below W.heap.size W w') := fun W x g hL hx => by
    have := hVal g x W hx hL.right
    rw [(hL.all hc).2.2.1] at this
    exact this
  have HO : Hid (∀ W x, IsEdges W x (edgesTo (doneL l) 36) → Calls Try.prog 23 #[x] W fun e w' => ∃ v' er, e = .returned (.tuple #[v', er]) ∧ ((er = .nilIface ∧ orderL (edgesTo (doneL l) 36) ≠ none) ∨ (er = .iface 75 (.int .i64 8) ∧ orderL (edgesTo (doneL l) 36) = none)) ∧ Below W.heap.size W w') := fun W x hx => by
    refine (order_any _ x W hx (edges_gchk _ _)).mono ?_
    rintro e w' ⟨⟨o, v', ho, rfl, -⟩ | ⟨hn, rfl⟩, hb⟩
    · exact ⟨_, _, rfl, .inl ⟨rfl, by rw [ho]; simp⟩, hb⟩
    · exact ⟨_, _, rfl, .inr ⟨rfl, hn⟩, hb⟩
  have HSO : Hid (∀ W x g, Like l g → IsOps W x g → Calls Try.prog 8 #[x] W fun e w' => ∃ v' er, e = .returned (.tuple #[v', er]) ∧ ((er = .nilIface ∧ orderL (edgesTo (doneL l) 36) ≠ none) ∨ (er = .iface 75 (.int .i64 8) ∧ orderL (edgesTo (doneL l) 36) = none)) ∧ Below W.heap.size W w') := fun W x g hL hx => by
    refine (ord_any g x W hx hL.right).mono ?_
    rintro e w' ⟨⟨o, v', ho, rfl, -⟩ | ⟨hn, rfl⟩, hb⟩
    · exact ⟨_, _, rfl, .inl ⟨rfl, fun h => by rw [(hL.all hc).2.2.2.2 h] at ho; cases ho⟩, hb⟩
    · exact ⟨_, _, rfl, .inr ⟨rfl, (hL.all hc).2.2.2.1 hn⟩, hb⟩
  have HS : Hid (∀ W x g (i : Int), Like l g → IsOps W x g → Calls Try.prog 20 #[x, .int .i64 i] W fun e w' => ((∃ n : Int, e = .returned (.tuple #[.slice none 0 0, .iface 75 (.int .i64 n)])) ∨ (∃ v' g', e = .returned (.tuple #[v', .nilIface]) ∧ IsOps w' v' g' ∧ Like l g')) ∧ Below W.heap.size W w') := fun W x g i hL hx => by
    by_cases hr : i < 0 ∨ (g.length : Int) - 1 ≤ i
    · exact (swap_range g x i W hx hL.right hr).mono fun e w' ⟨h1, h2⟩ => ⟨.inl ⟨_, h1⟩, h2⟩
    · obtain ⟨m, rfl⟩ : ∃ m : Nat, i = m := ⟨i.toNat, by omega⟩
      have hm : m + 1 < g.length := by omega
      by_cases hcl : (opAt g m).1 = (opAt g (m + 1)).1 ∨ oddB (opAt g m) (opAt g (m + 1)) = true
      · exact (swap_clash g x m W hx hL.right hm hcl).mono fun e w' ⟨h1, h2⟩ => ⟨.inl ⟨_, h1⟩, h2⟩
      · rw [not_or] at hcl
        have ho : oddB (opAt g m) (opAt g (m + 1)) = false := by simpa using hcl.2
        exact (swap_ok g x m W hx hL.right hm hcl.1 ho).mono fun e w' ⟨v', h1, h2, h3⟩ => ⟨.inr ⟨v', _, h1, h2, hL.swap hc hm hcl.1 ho⟩, h3⟩
  obtain ⟨au, bu, ou, cu, rfl, hau, -, hbu, hcu⟩ := hu
  have HP : Hid (∀ W, Below w.heap.size w W → ∀ k, k < p.length → au = some ⟨bu, ou, none⟩ ∧ W.cell? ⟨bu, ou + k, none⟩ = some (.int .i64 (p.getD k 0))) := fun W hW k hk => by
    have hb5 : bu < w.heap.size := by
      rcases hbu with h | h
      · exact h
      · subst h; simp at hk
    exact ⟨hau (by omega), (hW.cell (p := ⟨bu, ou + k, none⟩) hb5).trans (hcu k hk)⟩
  clear hI hc hVal hau hbu hcu
  go_enter Try.func6, Try.ntmps6
  go_wp2_with fail
  refine (one_any _).mono ?_
  rintro e wa ⟨rfl, hba⟩
  go_wp2_with fail
  refine (HCH.out _ hba).mono ?_
  rintro e wb ⟨n, rfl, hbb⟩
  have HB : Hid (Below w.heap.size w wb) := hba.trans (hbb.mono hba.size)
  have HIB : Hid (IsOps wb v l) := HI.out _ HB.out
  clear hba hbb HCH
  go_wp2_with (at_builtin; refine wpList_append_ops _ rfl (.tmp 34) (.tmp 35) rfl l v rfl rfl HIB.out HLEN.out.1 ?_; intro vg wc hIc hbc)
  have HBc : Hid (Below w.heap.size w wc) := HB.out.trans (hbc.mono HB.out.size)
  have HIc : Hid (IsOps wc vg l) := hIc
  clear hIc hbc HB HIB
  go_loopw [8, 9] (fun v8 v9 wr => ∃ (k : Nat) (g : List Op3), k ≤ p.length ∧ k ≤ 60 ∧ v9 = .int .i64 k ∧ IsOps wr v8 g ∧ Like l g ∧ Below w.heap.size w wr) (fun _ v9 _ => p.length - (intOf v9).toNat)
  case atStart => exact ⟨0, l, Nat.zero_le _, Nat.zero_le _, rfl, HIc.out, HLEN.out.2, HBc.out⟩
  case round =>
    clear HBc HIc HLEN
    obtain ⟨k, g, hk, hk60, rfl, hIg, hlk, hbel⟩ := hrel
    by_cases hlt : k < p.length
    · have hlt' : (k : Int) < (p.length : Int) := by omega
      by_cases h60 : k < 60
      · have h60' : (k : Int) < 60 := by omega
        obtain ⟨rfl, c0⟩ := HP.out wr hbel k hlt
        have HIG : Hid (IsOps wr u8 g) := hIg
        have HLK : Hid (Like l g) := hlk
        clear hIg hlk HP HE HEG HM HVM HV HVG HO HSO HI
        go_wp2_with fail
        refine (HS.out _ _ _ _ HLK.out HIG.out).mono ?_
        rintro e w1 ⟨⟨n1, rfl⟩ | ⟨v1, g1, rfl, hI1, hL1⟩, hb1⟩
        · have HI1 : Hid (IsOps w1 u8 g) := HIG.out.below hb1 (Nat.le_refl _)
          have HB1 : Hid (Below w.heap.size w w1) := hbel.trans (hb1.mono hbel.size)
          clear hb1 HIG HS
          go_wp2_with fail
          go_roundw
          case rel => exact ⟨k + 1, g, by omega, by omega, by go_num, HI1.out, HLK.out, HB1.out⟩
          case measure => simp [intOf]; omega
        · have HI1 : Hid (IsOps w1 v1 g1) := hI1
          have HL1 : Hid (Like l g1) := hL1
          have HB1 : Hid (Below w.heap.size w w1) := hbel.trans (hb1.mono hbel.size)
          clear hb1 HIG HS hI1 hL1
          go_wp2_with fail
          go_roundw
          case rel => exact ⟨k + 1, g1, by omega, by omega, by go_num, HI1.out, HL1.out, HB1.out⟩
          case measure => simp [intOf]; omega
      · have h60' : ¬ (k : Int) < 60 := by omega
        clear HP
        have HB0 : Hid (Below w.heap.size w wr) := hbel
        have HLK : Hid (Like l g) := hlk
        have HG : Hid (∀ W, Below wr.heap.size wr W → IsOps W u8 g) := fun W hW => hIg.below hW (Nat.le_refl _)
        have HX : Hid (∀ W, Below wr.heap.size wr W → Below w.heap.size w W) := fun W hW => hbel.trans (hW.mono hbel.size)
        clear hbel hlk hIg HS
        go_wp2_with fail
        refine (HE.out _ HB0.out).mono ?_
        rintro e w1 ⟨v1, rfl, hE1, hb1⟩
        have HB1 : Hid (Below wr.heap.size wr w1) := hb1
        have HE1 : Hid (∀ W, Below w1.heap.size w1 W → IsEdges W v1 (edgesTo (doneL l) 36)) := fun W hW => hE1.below hW (Nat.le_refl _)
        clear hb1 hE1 HE HB0
        go_wp2_with fail
        refine (HEG.out _ _ _ HLK.out (HG.out _ HB1.out)).mono ?_
        rintro e w2 ⟨v2, rfl, hE2, hb2⟩
        have HB2 : Hid (Below wr.heap.size wr w2) := HB1.out.trans (hb2.mono HB1.out.size)
        have HC2 : Hid (Below w1.heap.size w1 w2) := hb2
        have HE2 : Hid (∀ W, Below w2.heap.size w2 W → IsEdges W v2 (edgesTo (doneL l) 36)) := fun W hW => hE2.below hW (Nat.le_refl _)
        clear hb2 hE2 HEG HB1
        go_wp2_with fail
        refine (HM.out _ _ _ HLK.out (HX.out _ HB2.out) (HG.out _ HB2.out)).mono ?_
        rintro e w3 ⟨rfl, hb3⟩
        have HB3 : Hid (Below wr.heap.size wr w3) := HB2.out.trans (hb3.mono HB2.out.size)
        have HC3 : Hid (Below w2.heap.size w2 w3) := hb3
        clear hb3 HM HB2
        go_wp2_with fail
        refine (HVM.out _ _ _ HLK.out (HX.out _ HB3.out) (HG.out _ HB3.out)).mono ?_
        rintro e w4 ⟨rfl, hb4⟩
        have HB4 : Hid (Below wr.heap.size wr w4) := HB3.out.trans (hb4.mono HB3.out.size)
        have HC4 : Hid (Below w2.heap.size w2 w4) := HC3.out.trans (hb4.mono HC3.out.size)
        clear hb4 HVM HB3 HC3
        go_wp2_with fail
        refine (HV.out _ (HX.out _ HB4.out)).mono ?_
        rintro e w5 ⟨v5, rfl, hI5, hb5⟩
        have HB5 : Hid (Below wr.heap.size wr w5) := HB4.out.trans (hb5.mono HB4.out.size)
        have HC5 : Hid (Below w2.heap.size w2 w5) := HC4.out.trans (hb5.mono HC4.out.size)
        have HI5 : Hid (∀ W, Below w5.heap.size w5 W → IsInts W v5 (valsL (doneL l))) := fun W hW => hI5.below hW (Nat.le_refl _)
        clear hb5 hI5 HV HB4 HC4
        go_wp2_with fail
        refine (HVG.out _ _ _ HLK.out (HG.out _ HB5.out)).mono ?_
        rintro e w6 ⟨v6, rfl, hI6, hb6⟩
        have HB6 : Hid (Below wr.heap.size wr w6) := HB5.out.trans (hb6.mono HB5.out.size)
        have HC6 : Hid (Below w2.heap.size w2 w6) := HC5.out.trans (hb6.mono HC5.out.size)
        have HD6 : Hid (Below w5.heap.size w5 w6) := hb6
        have HI6 : Hid (∀ W, Below w6.heap.size w6 W → IsInts W v6 (valsL (doneL l))) := fun W hW => hI6.below hW (Nat.le_refl _)
        have HF6 : Hid (Below w1.heap.size w1 w6) := HC2.out.trans (HC6.out.mono HC2.out.size)
        clear hb6 hI6 HVG HB5 HC5 HC2
        go_wp2_with fail
        refine (same_edges _ _ _ _ (HE1.out _ HF6.out) (HE2.out _ HC6.out) (Nat.le_trans (edgesTo_len _ _) (by omega))).mono ?_
        rintro e w7 ⟨rfl, hb7⟩
        have HB7 : Hid (Below wr.heap.size wr w7) := HB6.out.trans (hb7.mono HB6.out.size)
        have HC7 : Hid (Below w6.heap.size w6 w7) := hb7
        have HF7 : Hid (Below w1.heap.size w1 w7) := HF6.out.trans (hb7.mono HF6.out.size)
        clear hb7 HB6 HC6 HF6 HE2
        go_wp2_with fail
        refine (same_ints _ _ _ _ (HI5.out _ (HD6.out.trans (HC7.out.mono HD6.out.size))) (HI6.out _ HC7.out) (vals_few _)).mono ?_
        rintro e w8 ⟨rfl, hb8⟩
        have HB8 : Hid (Below wr.heap.size wr w8) := HB7.out.trans (hb8.mono HB7.out.size)
        have HF8 : Hid (Below w1.heap.size w1 w8) := HF7.out.trans (hb8.mono HF7.out.size)
        clear hb8 HB7 HC7 HF7 HI5 HI6 HD6
        go_wp2_with fail
        refine (HO.out _ _ (HE1.out _ HF8.out)).mono ?_
        rintro e w9 ⟨v9, er, rfl, hor1, hb9⟩
        have HB9 : Hid (Below wr.heap.size wr w9) := HB8.out.trans (hb9.mono HB8.out.size)
        clear hb9 HB8 HF8 HO HE1
        go_wp2_with fail
        refine (HSO.out _ _ _ HLK.out (HG.out _ HB9.out)).mono ?_
        rintro e w10 ⟨v10, er2, rfl, hor2, hb10⟩
        have HB10 : Hid (Below wr.heap.size wr w10) := HB9.out.trans (hb10.mono HB9.out.size)
        clear hb10 HB9 HSO HLK HG
        rcases hor1 with ⟨rfl, h1⟩ | ⟨rfl, h1⟩
        · rcases hor2 with ⟨rfl, h2⟩ | ⟨rfl, h2⟩
          · clear h1 h2
            go_wp2_with fail
            go_quiet (fail)
            go_wp2
            go_ret
            exact ⟨rfl, HX.out _ (below_drewN HB10.out _)⟩
          · exact absurd h2 h1
        · rcases hor2 with ⟨rfl, h2⟩ | ⟨rfl, h2⟩
          · exact absurd h1 h2
          · clear h1 h2
            go_wp2_with fail
            go_quiet (fail)
            go_wp2
            go_ret
            exact ⟨rfl, HX.out _ (below_drewN HB10.out _)⟩
    · have hlt' : ¬ (k : Int) < (p.length : Int) := by omega
      clear HP
      have HB0 : Hid (Below w.heap.size w wr) := hbel
      have HLK : Hid (Like l g) := hlk
      have HG : Hid (∀ W, Below wr.heap.size wr W → IsOps W u8 g) := fun W hW => hIg.below hW (Nat.le_refl _)
      have HX : Hid (∀ W, Below wr.heap.size wr W → Below w.heap.size w W) := fun W hW => hbel.trans (hW.mono hbel.size)
      clear hbel hlk hIg HS
      go_wp2_with fail
      refine (HE.out _ HB0.out).mono ?_
      rintro e w1 ⟨v1, rfl, hE1, hb1⟩
      have HB1 : Hid (Below wr.heap.size wr w1) := hb1
      have HE1 : Hid (∀ W, Below w1.heap.size w1 W → IsEdges W v1 (edgesTo (doneL l) 36)) := fun W hW => hE1.below hW (Nat.le_refl _)
      clear hb1 hE1 HE HB0
      go_wp2_with fail
      refine (HEG.out _ _ _ HLK.out (HG.out _ HB1.out)).mono ?_
      rintro e w2 ⟨v2, rfl, hE2, hb2⟩
      have HB2 : Hid (Below wr.heap.size wr w2) := HB1.out.trans (hb2.mono HB1.out.size)
      have HC2 : Hid (Below w1.heap.size w1 w2) := hb2
      have HE2 : Hid (∀ W, Below w2.heap.size w2 W → IsEdges W v2 (edgesTo (doneL l) 36)) := fun W hW => hE2.below hW (Nat.le_refl _)
      clear hb2 hE2 HEG HB1
      go_wp2_with fail
      refine (HM.out _ _ _ HLK.out (HX.out _ HB2.out) (HG.out _ HB2.out)).mono ?_
      rintro e w3 ⟨rfl, hb3⟩
      have HB3 : Hid (Below wr.heap.size wr w3) := HB2.out.trans (hb3.mono HB2.out.size)
      have HC3 : Hid (Below w2.heap.size w2 w3) := hb3
      clear hb3 HM HB2
      go_wp2_with fail
      refine (HVM.out _ _ _ HLK.out (HX.out _ HB3.out) (HG.out _ HB3.out)).mono ?_
      rintro e w4 ⟨rfl, hb4⟩
      have HB4 : Hid (Below wr.heap.size wr w4) := HB3.out.trans (hb4.mono HB3.out.size)
      have HC4 : Hid (Below w2.heap.size w2 w4) := HC3.out.trans (hb4.mono HC3.out.size)
      clear hb4 HVM HB3 HC3
      go_wp2_with fail
      refine (HV.out _ (HX.out _ HB4.out)).mono ?_
      rintro e w5 ⟨v5, rfl, hI5, hb5⟩
      have HB5 : Hid (Below wr.heap.size wr w5) := HB4.out.trans (hb5.mono HB4.out.size)
      have HC5 : Hid (Below w2.heap.size w2 w5) := HC4.out.trans (hb5.mono HC4.out.size)
      have HI5 : Hid (∀ W, Below w5.heap.size w5 W → IsInts W v5 (valsL (doneL l))) := fun W hW => hI5.below hW (Nat.le_refl _)
      clear hb5 hI5 HV HB4 HC4
      go_wp2_with fail
      refine (HVG.out _ _ _ HLK.out (HG.out _ HB5.out)).mono ?_
      rintro e w6 ⟨v6, rfl, hI6, hb6⟩
      have HB6 : Hid (Below wr.heap.size wr w6) := HB5.out.trans (hb6.mono HB5.out.size)
      have HC6 : Hid (Below w2.heap.size w2 w6) := HC5.out.trans (hb6.mono HC5.out.size)
      have HD6 : Hid (Below w5.heap.size w5 w6) := hb6
      have HI6 : Hid (∀ W, Below w6.heap.size w6 W → IsInts W v6 (valsL (doneL l))) := fun W hW => hI6.below hW (Nat.le_refl _)
      have HF6 : Hid (Below w1.heap.size w1 w6) := HC2.out.trans (HC6.out.mono HC2.out.size)
      clear hb6 hI6 HVG HB5 HC5 HC2
      go_wp2_with fail
      refine (same_edges _ _ _ _ (HE1.out _ HF6.out) (HE2.out _ HC6.out) (Nat.le_trans (edgesTo_len _ _) (by omega))).mono ?_
      rintro e w7 ⟨rfl, hb7⟩
      have HB7 : Hid (Below wr.heap.size wr w7) := HB6.out.trans (hb7.mono HB6.out.size)
      have HC7 : Hid (Below w6.heap.size w6 w7) := hb7
      have HF7 : Hid (Below w1.heap.size w1 w7) := HF6.out.trans (hb7.mono HF6.out.size)
      clear hb7 HB6 HC6 HF6 HE2
      go_wp2_with fail
      refine (same_ints _ _ _ _ (HI5.out _ (HD6.out.trans (HC7.out.mono HD6.out.size))) (HI6.out _ HC7.out) (vals_few _)).mono ?_
      rintro e w8 ⟨rfl, hb8⟩
      have HB8 : Hid (Below wr.heap.size wr w8) := HB7.out.trans (hb8.mono HB7.out.size)
      have HF8 : Hid (Below w1.heap.size w1 w8) := HF7.out.trans (hb8.mono HF7.out.size)
      clear hb8 HB7 HC7 HF7 HI5 HI6 HD6
      go_wp2_with fail
      refine (HO.out _ _ (HE1.out _ HF8.out)).mono ?_
      rintro e w9 ⟨v9, er, rfl, hor1, hb9⟩
      have HB9 : Hid (Below wr.heap.size wr w9) := HB8.out.trans (hb9.mono HB8.out.size)
      clear hb9 HB8 HF8 HO HE1
      go_wp2_with fail
      refine (HSO.out _ _ _ HLK.out (HG.out _ HB9.out)).mono ?_
      rintro e w10 ⟨v10, er2, rfl, hor2, hb10⟩
      have HB10 : Hid (Below wr.heap.size wr w10) := HB9.out.trans (hb10.mono HB9.out.size)
      clear hb10 HB9 HSO HLK HG
      rcases hor1 with ⟨rfl, h1⟩ | ⟨rfl, h1⟩
      · rcases hor2 with ⟨rfl, h2⟩ | ⟨rfl, h2⟩
        · clear h1 h2
          go_wp2_with fail
          go_quiet (fail)
          go_wp2
          go_ret
          exact ⟨rfl, HX.out _ (below_drewN HB10.out _)⟩
        · exact absurd h2 h1
      · rcases hor2 with ⟨rfl, h2⟩ | ⟨rfl, h2⟩
        · exact absurd h1 h2
        · clear h1 h2
          go_wp2_with fail
          go_quiet (fail)
          go_wp2
          go_ret
          exact ⟨rfl, HX.out _ (below_drewN HB10.out _)⟩

theorem top_walk (hVal : ValuesOk) (l : List Op3) (p : List Int) (v u : Value) (w : World) (hI : IsOps w v l) (hu : IsInts w u p) :
    Calls Try.prog 6 #[v, u] w fun e w' => e = .returned (.bool true) ∧ Below w.heap.size w w' := by
  by_cases hc : (chk l).2 = 0
  · exact top_ok hVal l p v u w hI hu hc
  · exact top_bad l v u w hI hc
end Go.Proofs.Ytgnbejemhdcemad
