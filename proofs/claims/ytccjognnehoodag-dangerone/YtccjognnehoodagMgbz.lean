/-
  PROVED HERE: package danger's pivots: those to which one of the edges leads, and from which one leads; rising. Old memory stays as it was.
  Conditions: the list of edges is not too long.
  PROVED HERE: package danger: its rules, as package course calls them (one of them a closure over another rule); its Run, Edges and Pivots keep what they are asked (RunsC, AntC, PivC). Old memory stays as it was.
  Conditions: what slices.Sort does is a premise (SortC).
-/
import Derived.Test.YtccjognnehoodagMgby
import Derived.Test.YtccjognnehoodagMgbn
import Derived.Test.YtccjognnehoodagMgbv
namespace Go.Proofs.Ytccjognnehoodag
open Go.RowKit

/-- What a pointer to a number holds. -/
def heldD (w : World) : Value → Int
  | .pointer (some a) => intOf ((w.cell? a).getD undef)
  | _ => 0
/-- A number in a block of its own. -/
def DBox (w : World) (c : Nat) (x : Int) : Prop := w.heap[c]? = some (.cells #[.int .i64 x] 3)
theorem DBox.cell {w : World} {c : Nat} {x : Int} (h : DBox w c x) : w.cell? ⟨c, 0, none⟩ = some (.int .i64 x) := by
  rw [cell_of_row w c 0 _ _ (0, 0) h]; rfl
theorem DBox.lt {w : World} {c : Nat} {x : Int} (h : DBox w c x) : c < w.heap.size := (Array.getElem?_eq_some_iff.1 h).1
theorem DBox.below {w w' : World} {c B : Nat} {x : Int} (h : DBox w c x) (hb : Below B w w') (hc : c < B) : DBox w' c x := (hb.block c hc).trans h
theorem DBox.alloc {w : World} {c : Nat} {x : Int} (h : DBox w c x) (o : Obj) : DBox (w.alloc o) c x := h.below ((Below.refl _ w).alloc (Nat.le_refl _) o) h.lt
theorem dBox_new (w : World) (x : Int) : DBox (w.alloc (.cells #[.int .i64 x] 3)) w.heap.size x := heap_alloc_new w _
set_option maxHeartbeats 8000000 in
set_option maxRecDepth 100000 in
theorem dpivots_fn (l : List Edge2) (v : Value) (w : World) (hI : IsEdges w v l) (hl : l.length ≤ 10000000) :
    Calls Try.prog 24 #[v] w fun e w' => ∃ v', e = .returned v' ∧ w'.ownsRow w.heap.size 3 1 v' (pivTo l 6).length ((pivTo l 6).map (Value.int .i64)) ∧ Below w.heap.size w w' := by
  have HC1 : Hid (∀ (X : World) (b : Nat) (t : Int), Below w.heap.size w X → X.cell? ⟨b, 0, none⟩ = some (.int .i64 t) → Calls Try.prog 40 #[v, .func (.func 41) #[] #[.pointer (some ⟨b, 0, none⟩)]] X fun r w' => r = .returned (.bool (l.any fun e => e.2 == t)) ∧ Below X.heap.size X w') := fun X b t hX hc =>
    contains_edge l v (fun e => e.2 == t) _ _ X call_piv1 (hI.below hX (Nat.le_refl _)) (by omega) fun W2 hW2 e _ => piv1_fn e t b W2 ((hW2.cell (p := ⟨b, 0, none⟩) (World.block_lt_of_cell? X _ hc)).trans hc)
  have HC2 : Hid (∀ (X : World) (b : Nat) (t : Int), Below w.heap.size w X → X.cell? ⟨b, 0, none⟩ = some (.int .i64 t) → Calls Try.prog 40 #[v, .func (.func 42) #[] #[.pointer (some ⟨b, 0, none⟩)]] X fun r w' => r = .returned (.bool (l.any fun e => e.1 == t)) ∧ Below X.heap.size X w') := fun X b t hX hc =>
    contains_edge l v (fun e => e.1 == t) _ _ X call_piv2 (hI.below hX (Nat.le_refl _)) (by omega) fun W2 hW2 e _ => piv2_fn e t b W2 ((hW2.cell (p := ⟨b, 0, none⟩) (World.block_lt_of_cell? X _ hc)).trans hc)
  obtain ⟨ad, b0, off, cap, rfl, -⟩ := hI
  obtain ⟨i0, hi, hz0, hs0, hy0⟩ := info_parts infoInt
  have HI : Hid (Try.prog.info? 3 = some i0 ∧ i0.zero = some (.int .i64 0) ∧ i0.size = 1 ∧ i0.bytes = 8) := ⟨hi, hz0, hs0, hy0⟩
  obtain ⟨m, hm⟩ : ∃ m, l.length = m := ⟨_, rfl⟩
  rw [hm] at HC1 HC2 hl
  rw [hm]
  clear hi hz0 hs0 hy0 hm
  go_enter Try.func24, Try.ntmps24
  go_wp2_with fail
  go_loopw [3, 4] (fun v3 v4 wr => ∃ (k b : Nat), k ≤ 6 ∧ v4 = .pointer (some ⟨b, 0, none⟩) ∧ DBox wr b ((k : Int) + 1) ∧ wr.ownsRow w.heap.size 3 1 v3 (pivTo l k).length ((pivTo l k).map (Value.int .i64)) ∧ (∀ g, v3.ownBlock = some g → g ≠ b) ∧ Below w.heap.size w wr) (fun _ v4 wr => 7 - (heldD wr v4).toNat)
  case atStart => exact ⟨0, _, by omega, rfl, by simpa using dBox_new w 1, World.ownsRow_nil _ _ _ _, fun g hg => by simp [Value.ownBlock] at hg, (Below.refl _ w).alloc (Nat.le_refl _) _⟩
  case round =>
    obtain ⟨k, b, hk, rfl, hbox, hown, hne, hbel⟩ := hrel
    have hcell := hbox.cell
    have hbl := hbox.lt
    have HBOX := hid_q hbox
    have HOWN := hid_q hown
    have HNE := hid_q hne
    have HBEL := hid_q hbel
    have hwl := pivTo_len l k
    obtain ⟨n, hn⟩ : ∃ n, (pivTo l k).length = n := ⟨_, rfl⟩
    have HN := hid_q hn
    rw [hn] at hwl HOWN
    clear hbox hown hne hn
    by_cases hk6 : k < 6
    · have hk6' : (k : Int) + 1 ≤ 6 := by omega
      have HD1 := hid_q (HC1.out wr b _ hbel hcell)
      obtain ⟨p1, hp1⟩ : ∃ p, (l.any fun e => e.2 == (k : Int) + 1) = p := ⟨_, rfl⟩
      obtain ⟨p2, hp2⟩ : ∃ p, (l.any fun e => e.1 == (k : Int) + 1) = p := ⟨_, rfl⟩
      have HQ : Hid (pivTo l (k + 1) = pivTo l k ++ (if (p1 && p2) = true then [(k : Int) + 1] else [])) := by show _ = _; rw [pivTo_succ]; unfold pivAt; rw [hp1, hp2]
      have HP2 := hid_q hp2
      rw [hp1] at HD1
      clear hp1 hp2
      go_wp2_with fail
      refine HD1.out.mono ?_
      rintro e w1 ⟨rfl, hb1⟩
      have HB1 := hid_q hb1
      have c1 := (hb1.cell (p := ⟨b, 0, none⟩) hbl).trans hcell
      have HD2 := hid_q (HC2.out w1 b _ (HBEL.out.trans (hb1.mono HBEL.out.size)) c1)
      rw [HP2.out] at HD2
      clear hb1
      go_wp2_with fail
      refine HD2.out.mono ?_
      rintro e wX ⟨rfl, hb2⟩
      have hbX0 : Below wr.heap.size wr wX := HB1.out.trans (hb2.mono HB1.out.size)
      have HOX : Hid (wX.ownsRow w.heap.size 3 1 u3 n ((pivTo l k).map (Value.int .i64))) := (Turns.of_below (F := fun _ => False) hbX0).own HOWN.out (fun _ _ hf => hf)
      have HBX : Hid (Below w.heap.size w wX) := HBEL.out.trans (hbX0.mono HBEL.out.size)
      have hboxX := HBOX.out.below hbX0 hbl
      have HBOXX := hid_q hboxX
      have kX := hboxX.cell
      have hblX := hboxX.lt
      have hVX := HBX.out.size
      clear hb2 hbX0 hboxX c1 HB1 HD1 HD2
      cases p1 with
      | true =>
        cases p2 with
        | true =>
          go_wp2_with (at_builtin; refine wpList_append_apart _ rfl (.tmp 21) (.tmp 23) 25 rfl w.heap.size 3 i0 (.int .i64 0) 1 8 Try.underlying25 HI.out.1 HI.out.2.1 HI.out.2.2.1 HI.out.2.2.2 rfl (by decide) u3 n ((pivTo l k).map (Value.int .i64)) rfl (HOX.out.alloc _) ⟨wX.heap.size, 0, none⟩ 1 1 [.int .i64 ((k : Int) + 1)] rfl rfl (cell_one_new _ _ _) (by simp [Value.oneCell']) (by unfold maxLen; omega) (by omega) (by simp; omega) ?_; intro v7 w7 hown7 hgr7 hap7; have j7 : w7.cell? ⟨b, 0, none⟩ = some (.int .i64 ((k : Int) + 1)) := (DBox.cell (show DBox w7 b ((k : Int) + 1) from (hgr7.block b (by simp; omega) (fun e => HNE.out b e.symm rfl)).trans (HBOXX.out.alloc _))))
          have hB7 := (HBX.out.alloc hVX _).grown hgr7 (by simp; omega) (fun g hg => (HOX.out.lt g hg).1)
          go_roundw
          case rel => exact ⟨k + 1, w7.heap.size, by omega, rfl, by simpa using dBox_new w7 _, by rw [HQ.out, if_pos (show (true && true) = true from rfl), List.length_append, HN.out, List.map_append]; exact hown7.alloc _, fun g hg => by have := (hown7.lt g hg).2; omega, hB7.alloc hB7.size _⟩
          case measure => simp [heldD, intOf, hcell]; omega
        | false =>
          go_wp2_with fail
          go_roundw
          case rel => exact ⟨k + 1, wX.heap.size, by omega, rfl, by simpa using dBox_new wX _, by rw [HQ.out, if_neg (by decide), List.append_nil, HN.out]; exact HOX.out.alloc _, fun g hg => by have := (HOX.out.lt g hg).2; omega, HBX.out.alloc HBX.out.size _⟩
          case measure => simp [heldD, intOf, hcell]; omega
      | false =>
        go_wp2_with fail
        go_roundw
        case rel => exact ⟨k + 1, wX.heap.size, by omega, rfl, by simpa using dBox_new wX _, by rw [HQ.out, if_neg (by rw [Bool.false_and]; decide), List.append_nil, HN.out]; exact HOX.out.alloc _, fun g hg => by have := (HOX.out.lt g hg).2; omega, HBX.out.alloc HBX.out.size _⟩
        case measure => simp [heldD, intOf, hcell]; omega
    · have hk6' : ¬ (k : Int) + 1 ≤ 6 := by omega
      obtain rfl : k = 6 := by omega
      go_wp2_with fail
      go_ret
      exact ⟨_, rfl, by rw [HN.out]; exact HOWN.out, HBEL.out⟩
end Go.Proofs.Ytccjognnehoodag

namespace Go.Proofs.Ytccjognnehoodag
open Go.RowKit

theorem edgQ_len {q : Crs} {ds : List Int} (h : ds.length ≤ 1000) : (edgQ q ds).length ≤ 10000000 := by
  unfold edgQ
  refine Nat.le_trans (edgesG_len _ _ _) ?_
  rw [(sortI_perm ds).length_eq]
  exact Nat.le_trans (Nat.mul_le_mul h h) (by decide)
set_option maxHeartbeats 4000000 in
set_option maxRecDepth 100000 in
theorem danger_fn (hSort : SortC) {w0 w : World} {R : Nat} {S F : Value} {q : Crs} {c : CLay} (h : CrsAt w0 w R S F q c) (hq : CrsOk 999 q) {t : Int} (h1 : 1 ≤ t) (h6 : t ≤ 6) (hb : (q.began t).isSome = true) :
    Calls Try.prog 39 #[.pointer (some ⟨R, 0, none⟩), .int .i64 t] w fun e w' => e = .returned (.bool (decide (0 < (pivTo (edgQ q (q.done ++ [t])) 6).length))) ∧ Below w.heap.size w w' := by
  have HDN := hid_q (done_crs h (by have := hq.lenD; omega))
  have hlen : (q.done ++ [t]).length ≤ 1000 := by have := hq.lenD; rw [List.length_append, List.length_singleton]; omega
  have HE : Hid (∀ W, Below w.heap.size w W → ∀ v, IsInts W v (q.done ++ [t]) → Calls Try.prog 34 #[.pointer (some ⟨R, 0, none⟩), v] W fun e w' => ∃ v', e = .returned v' ∧ IsEdges w' v' (edgQ q (q.done ++ [t])) ∧ Below W.heap.size W w') := fun W hW v hv =>
    edges_fn hSort (h.below hW) hq.more _ v hv hlen fun x hx => by
      rcases List.mem_append.1 hx with hx | hx
      · exact ⟨(hq.six x hx).1, (hq.six x hx).2, hq.begs x hx⟩
      · rw [List.mem_singleton.1 hx]; exact ⟨h1, h6, hb⟩
  have HEL := hid_q (edgQ_len (q := q) hlen)
  obtain ⟨i0, hi, hz0, hs0, hy0⟩ := info_parts infoInt
  have HI : Hid (Try.prog.info? 3 = some i0 ∧ i0.zero = some (.int .i64 0) ∧ i0.size = 1 ∧ i0.bytes = 8) := ⟨hi, hz0, hs0, hy0⟩
  have hdl := hq.lenD
  obtain ⟨n, hn⟩ : ∃ n, q.done.length = n := ⟨_, rfl⟩
  have HN := hid_q hn
  rw [hn] at HDN hdl
  obtain ⟨E, hE⟩ : ∃ E, edgQ q (q.done ++ [t]) = E := ⟨_, rfl⟩
  rw [hE] at HE HEL ⊢
  obtain ⟨m, hm⟩ : ∃ m, (pivTo E 6).length = m := ⟨_, rfl⟩
  rw [hm]
  have HM := hid_q hm
  clear h hq h1 h6 hb hi hz0 hs0 hy0 hn hE hlen hSort hm
  go_enter Try.func39, Try.ntmps39
  go_wp2_with fail
  refine HDN.out.mono ?_
  rintro e w1 ⟨v1, rfl, ho1, hb1⟩
  have HO1 := hid_q ho1
  have HB1 := hid_q hb1
  have hsz1 := hb1.size
  obtain ⟨ad1, c1, rfl, -⟩ := own_slice3 ho1
  clear ho1 hb1
  go_wp2_with (at_builtin; refine wpList_append_own _ rfl (.tmp 7) (.tmp 9) 25 rfl w.heap.size 3 i0 (.int .i64 0) 1 8 Try.underlying25 HI.out.1 HI.out.2.1 HI.out.2.2.1 HI.out.2.2.2 rfl (by decide) (.slice ad1 n c1) n (q.done.map (Value.int .i64)) rfl (HO1.out.alloc _) ⟨w1.heap.size, 0, none⟩ 1 1 [.int .i64 t] rfl rfl (cell_one_new _ _ _) (by simp [Value.oneCell']) (by unfold maxLen; omega) (by omega) (by simp; omega) ?_; intro v2 w2 hown2 hgr2 hnil2; obtain ⟨g2, cap2, rfl⟩ := ownsRow_succ hown2)
  have hB2 := (HB1.out.alloc hsz1 _).grown hgr2 (by simp; omega) (fun k hk => (HO1.out.lt k hk).1)
  have HB2 := hid_q hB2
  have HI2 : Hid (IsInts w2 (.slice (some ⟨g2, 0, none⟩) (n + 1) cap2) (q.done ++ [t])) := isInts_own (base := w.heap.size) (e := 3) (by rw [List.map_append]; exact hown2) (by rw [List.length_append, List.length_singleton, HN.out])
  have HEE := hid_q (HE.out w2 hB2 _ HI2.out)
  clear hown2 hgr2 hnil2 hB2
  refine HEE.out.mono ?_
  rintro e w3 ⟨v3, rfl, hi3, hb3⟩
  have HPP := hid_q (dpivots_fn E v3 w3 hi3 HEL.out)
  have HB3 : Hid (Below w.heap.size w w3) := HB2.out.trans (hb3.mono HB2.out.size)
  obtain ⟨ad3, n3, c3, rfl⟩ : ∃ d n p, v3 = .slice d n p := by obtain ⟨a, _, _, c, h, _⟩ := hi3; exact ⟨a, _, c, h⟩
  clear hi3 hb3
  go_wp2_with fail
  refine HPP.out.mono ?_
  rintro e w4 ⟨v4, rfl, ho4, hb4⟩
  have HB4 : Hid (Below w.heap.size w w4) := HB3.out.trans (hb4.mono HB3.out.size)
  rw [HM.out] at ho4
  obtain ⟨ad4, c4, rfl, -⟩ := own_slice3 ho4
  clear ho4 hb4
  by_cases h0 : 0 < m
  · have h0' : (0 : Int) < (m : Int) := by omega
    go_wp2_with fail
    go_ret
    exact ⟨by rw [decide_eq_true h0]; rfl, HB4.out⟩
  · have h0' : ¬ (0 : Int) < (m : Int) := by omega
    go_wp2_with fail
    go_ret
    exact ⟨by rw [decide_eq_false h0]; rfl, HB4.out⟩
theorem call_fallD : RuleFn 38 := fun _ _ => by kernel_rfl
/-- The rule that a closure holds on to. -/
def KeptD (P : Nat) (w : World) : Prop := w.cell? ⟨P, 0, none⟩ = some (.func (.func 37) #[] #[])
theorem KeptD.below {P : Nat} {w w' : World} (h : KeptD P w) (hb : Below w.heap.size w w') : KeptD P w' := (hb.cell (p := ⟨P, 0, none⟩) (World.block_lt_of_cell? w _ h)).trans h
set_option maxHeartbeats 4000000 in
set_option maxRecDepth 100000 in
theorem fallD_c (hSort : SortC) (P : Nat) : FallK (KeptD P) 38 #[] #[.pointer (some ⟨P, 0, none⟩)] fallD := by
  intro w0 w R S F q c t hK h hq h1 h6 hb
  rw [Array.empty_append]
  have k0 : w.cell? ⟨P, 0, none⟩ = some (.func (.func 37) #[] #[]) := (h.old.cell (p := ⟨P, 0, none⟩) (World.block_lt_of_cell? w0 _ hK)).trans hK
  have HS := hid_q (fallS_c w0 w R S F q c t h hq.more h1 h6 hb)
  have HD : Hid (∀ W, Below w.heap.size w W → Calls Try.prog 39 #[.pointer (some ⟨R, 0, none⟩), .int .i64 t] W fun e w' => e = .returned (.bool (decide (0 < (pivTo (edgQ q (q.done ++ [t])) 6).length))) ∧ Below W.heap.size W w') := fun W hW => danger_fn hSort (h.below hW) hq h1 h6 hb
  unfold fallD
  have hcall := call_over
  obtain ⟨r, hr⟩ : ∃ r, decide (0 < (pivTo (edgQ q (q.done ++ [t])) 6).length) = r := ⟨_, rfl⟩
  rw [hr] at HD ⊢
  clear h hq h1 h6 hb hr hK hSort
  cases hs : fallS q t with
  | true =>
    rw [hs] at HS
    go_enter Try.func38, Try.ntmps38
    go_wp2_with fail
    refine HS.out.mono ?_
    rintro e w1 ⟨rfl, hb1⟩
    go_wp2_with fail
    go_ret
    exact ⟨rfl, hb1⟩
  | false =>
    rw [hs] at HS
    go_enter Try.func38, Try.ntmps38
    go_wp2_with fail
    refine HS.out.mono ?_
    rintro e w1 ⟨rfl, hb1⟩
    have HB1 := hid_q hb1
    clear hb1
    go_wp2_with fail
    refine (HD.out w1 HB1.out).mono ?_
    rintro e w2 ⟨rfl, hb2⟩
    have HB2 : Hid (Below w.heap.size w w2) := HB1.out.trans (hb2.mono HB1.out.size)
    clear hb2
    go_wp2_with fail
    go_ret
    exact ⟨rfl, HB2.out⟩
set_option maxHeartbeats 4000000 in
set_option maxRecDepth 100000 in
theorem rulesD_fn (w : World) : Calls Try.prog 23 #[] w fun e w' => ∃ P, e = .returned (.agg #[.func (.func 36) #[] #[], .func (.func 38) #[] #[.pointer (some ⟨P, 0, none⟩)]]) ∧ KeptD P w' ∧ Below w.heap.size w w' := by
  obtain ⟨W0, hW0⟩ : ∃ W, W = w.alloc (.cells #[.nilFunc, .nilFunc] 56) := ⟨_, rfl⟩
  have hb0 : Below w.heap.size w W0 := by rw [hW0]; exact (Below.refl _ w).alloc (Nat.le_refl _) _
  have HB0 := hid_q hb0
  have kz : W0.heap[w.heap.size]? = some (.cells #[.nilFunc, .nilFunc] 56 (0, 0)) := by rw [hW0]; exact World.alloc_heap_new w _
  have HKZ := hid_q kz
  have hsz : W0.heap.size = w.heap.size + 1 := by rw [hW0]; simp
  have HSZ := hid_q hsz
  have HRL := hid_q (rules_fn W0)
  clear hb0 kz hsz
  go_enter Try.func23, Try.ntmps23
  go_upto_region 1 with (fail)
  rw [← hW0]
  obtain ⟨Z, hZ⟩ : ∃ Z, Z = w.heap.size := ⟨_, rfl⟩
  rw [← hZ] at HKZ ⊢
  have HZZ : Hid (Z < W0.heap.size ∧ w.heap.size ≤ Z) := by have := HSZ.out; exact ⟨by omega, by omega⟩
  clear hW0 hZ
  go_wp2_with fail
  refine HRL.out.mono ?_
  rintro e w1 ⟨rfl, hb1⟩
  have hz1 := (hb1.block Z HZZ.out.1).trans HKZ.out
  have hZ1 : Z < w1.heap.size := Nat.lt_of_lt_of_le HZZ.out.1 hb1.size
  have z0 : w1.cell? ⟨Z, 0, none⟩ = some .nilFunc := by rw [cell_of_row w1 Z _ _ _ _ hz1]; rfl
  have z1 : w1.cell? ⟨Z, 1, none⟩ = some .nilFunc := by rw [cell_of_row w1 Z _ _ _ _ hz1]; rfl
  have y0 : w1.frozen? ⟨Z, 0, none⟩ = false := by simp [World.frozen?, hz1]
  have y1 : w1.frozen? ⟨Z, 1, none⟩ = false := by simp [World.frozen?, hz1]
  have HB1 := hid_q hb1
  clear hb1
  go_wp2_with fail
  obtain ⟨P, hP⟩ : ∃ P, w1.heap.size + 1 = P := ⟨_, rfl⟩
  rw [hP]
  obtain ⟨X, hX⟩ : ∃ X, X = (w1.setCell ⟨Z, 0, none⟩ (.func (.func 36) #[] #[])).setCell ⟨Z, 1, none⟩ (.func (.func 38) #[] #[.pointer (some ⟨P, 0, none⟩)]) := ⟨_, rfl⟩
  have hXs : X.heap.size = w1.heap.size := by rw [hX]; simp
  have hXz : X.heap[Z]? = some (.cells #[.func (.func 36) #[] #[], .func (.func 38) #[] #[.pointer (some ⟨P, 0, none⟩)]] 56 (0, 0)) := by rw [hX, block_set (block_set hz1)]; rfl
  have hXb : Below w.heap.size w X := by
    rw [hX]
    have h1 : Below w.heap.size w w1 := HB0.out.trans (HB1.out.mono HB0.out.size)
    exact (h1.setCell (p := ⟨Z, 0, none⟩) HZZ.out.2 _).setCell (p := ⟨Z, 1, none⟩) HZZ.out.2 _
  rw [← hX]
  obtain ⟨Y, hY⟩ : ∃ Y, Y = (X.alloc (.cells #[.func (.func 36) #[] #[], .func (.func 38) #[] #[.pointer (some ⟨P, 0, none⟩)]] 56)).alloc (.cells #[.func (.func 37) #[] #[]] 54) := ⟨_, rfl⟩
  rw [← hY]
  have hbY : Below X.heap.size X Y := by rw [hY]; exact ((Below.refl _ X).alloc (Nat.le_refl _) _).alloc (by simp) _
  have hYz := (hbY.block Z (by rw [hXs]; exact hZ1)).trans hXz
  have hYk : KeptD P Y := by
    unfold KeptD
    have := (Boxed.new (X.alloc (.cells #[.func (.func 36) #[] #[], .func (.func 38) #[] #[.pointer (some ⟨P, 0, none⟩)]] 56)) 54 (.func (.func 37) #[] #[])).cell
    rw [World.size_alloc, hXs, hP] at this
    rw [hY]; exact this
  exact bodyPost_ret (v := .agg #[.func (.func 36) #[] #[], .func (.func 38) #[] #[.pointer (some ⟨P, 0, none⟩)]]) (results_cell_row Try.results23 _ _ Z 56 #[.func (.func 36) #[] #[], .func (.func 38) #[] #[.pointer (some ⟨P, 0, none⟩)]] (0, 0) _ rfl hYz Try.underlying56 rfl rules_infoQ) rfl ⟨P, rfl, hYk, hXb.trans (hbY.mono hXb.size)⟩
theorem outD (l : List Op3) : outU 3 okBtw false l = ((if (chk l).2 = 0 then (runQ seesS fallD l l.length).done else [], if (chk l).2 = 0 then (runQ seesS fallD l l.length).done.flatMap (runQ seesS fallD l l.length).read else [], if (chk l).2 = 0 then lastsQ (runQ seesS fallD l l.length) 6 else []), (chk l).2) := by
  by_cases hc : (chk l).2 = 0
  · rw [if_pos hc, if_pos hc, if_pos hc, crs_out rulesD hc, hc]; rfl
  · rw [if_neg hc, if_neg hc, if_neg hc, outU_bad hc]
set_option maxHeartbeats 8000000 in
set_option maxRecDepth 100000 in
theorem danger_sort (hSort : SortC) : RunsC 11 3 okBtw false := by
  intro l v w hI
  rw [outD]
  have HRC : Hid (∀ W P, Below w.heap.size w W → KeptD P W → _) := fun W P hW hP => run_crs call_asItWas call_fallD seesS_c (fallD_c hSort P) l v W (fun W2 hW2 => hP.below hW2) (hI.below hW (Nat.le_refl _))
  obtain ⟨A, hA⟩ : ∃ A, (if (chk l).2 = 0 then (runQ seesS fallD l l.length).done else []) = A := ⟨_, rfl⟩
  obtain ⟨B, hB⟩ : ∃ B, (if (chk l).2 = 0 then (runQ seesS fallD l l.length).done.flatMap (runQ seesS fallD l l.length).read else []) = B := ⟨_, rfl⟩
  obtain ⟨C, hC⟩ : ∃ C, (if (chk l).2 = 0 then lastsQ (runQ seesS fallD l l.length) 6 else []) = C := ⟨_, rfl⟩
  obtain ⟨er, her⟩ : ∃ e, errV (chk l).2 = e := ⟨_, rfl⟩
  have HER : Hid (er = .nilIface ∨ ∃ n, er = .iface 104 (.int .i64 n)) := by
    show _ ∨ _
    rw [← her]
    unfold errV
    split
    · exact .inl rfl
    · exact .inr ⟨_, rfl⟩
  rw [hA, hB, hC, her] at HRC
  simp only
  rw [hA, hB, hC, her]
  obtain ⟨ad, b, off, cap, rfl, -⟩ := hI
  obtain ⟨W0, hW0⟩ : ∃ W, W = w.alloc (.cells #[.slice none 0 0, .slice none 0 0, .slice none 0 0] 28) := ⟨_, rfl⟩
  have hb0 : Below w.heap.size w W0 := by rw [hW0]; exact (Below.refl _ w).alloc (Nat.le_refl _) _
  have HB0 := hid_q hb0
  have kz : W0.heap[w.heap.size]? = some (.cells #[.slice none 0 0, .slice none 0 0, .slice none 0 0] 28 (0, 0)) := by rw [hW0]; exact World.alloc_heap_new w _
  have HKZ := hid_q kz
  have hsz : W0.heap.size = w.heap.size + 1 := by rw [hW0]; simp
  have HSZ := hid_q hsz
  have HRL := hid_q (rulesD_fn W0)
  clear hA hB hC her hb0 kz hsz hSort
  go_enter Try.func11, Try.ntmps11
  go_upto_region 1 with (fail)
  rw [← hW0]
  obtain ⟨Z, hZ⟩ : ∃ Z, Z = w.heap.size := ⟨_, rfl⟩
  rw [← hZ] at HKZ ⊢
  have HZZ : Hid (Z < W0.heap.size ∧ w.heap.size ≤ Z) := by have := HSZ.out; exact ⟨by omega, by omega⟩
  clear hW0 hZ
  go_wp2_with fail
  refine HRL.out.mono ?_
  rintro e w2 ⟨P, rfl, hkp, hb2⟩
  have HB2 := hid_q hb2
  have HCK := hid_q (HRC.out w2 P (HB0.out.trans (hb2.mono HB0.out.size)) hkp)
  clear hb2 hkp
  go_wp2_with fail
  refine HCK.out.mono ?_
  rintro e w5 ⟨a1, a2, a3, rfl, hi1, hi2, hi3, hr, hb6⟩
  have hb5 : Below W0.heap.size W0 w5 := HB2.out.trans (hb6.mono HB2.out.size)
  have hz5 := (hb5.block Z HZZ.out.1).trans HKZ.out
  have HF5 := hid_q (fin5 hz5 HZZ.out.2 (HB0.out.trans (hb5.mono HB0.out.size)) (u1 := a1) (u2 := a2) (u3 := a3) hi1 hi2 hi3)
  have HRR := hid_q hr
  have z0 : w5.cell? ⟨Z, 0, none⟩ = some (.slice none 0 0) := by rw [cell_of_row w5 Z _ _ _ _ hz5]; rfl
  have z1 : w5.cell? ⟨Z, 1, none⟩ = some (.slice none 0 0) := by rw [cell_of_row w5 Z _ _ _ _ hz5]; rfl
  have z2 : w5.cell? ⟨Z, 2, none⟩ = some (.slice none 0 0) := by rw [cell_of_row w5 Z _ _ _ _ hz5]; rfl
  have y0 : w5.frozen? ⟨Z, 0, none⟩ = false := by simp [World.frozen?, hz5]
  have y1 : w5.frozen? ⟨Z, 1, none⟩ = false := by simp [World.frozen?, hz5]
  have y2 : w5.frozen? ⟨Z, 2, none⟩ = false := by simp [World.frozen?, hz5]
  obtain ⟨d1, n1, p1, x1⟩ : ∃ d n p, a1 = .slice d n p := by obtain ⟨a, _, _, c, h, _⟩ := hi1; exact ⟨a, _, c, h⟩
  obtain ⟨d2, n2, p2, x2⟩ : ∃ d n p, a2 = .slice d n p := by obtain ⟨a, _, _, c, h, _⟩ := hi2; exact ⟨a, _, c, h⟩
  obtain ⟨d3, n3, p3, x3⟩ : ∃ d n p, a3 = .slice d n p := by obtain ⟨a, _, _, c, h, _⟩ := hi3; exact ⟨a, _, c, h⟩
  subst x1 x2 x3
  clear hi1 hi2 hi3 hr hb5 hb6 hz5
  rcases HER.out with rfl | ⟨ne, rfl⟩
  · go_wp2_with fail
    exact bodyPost_ret (v := .tuple #[.agg #[.slice d1 n1 p1, .slice d2 n2 p2, .slice d3 n3 p3], .nilIface]) (results_twoQ Try.results11 _ _ Z 28 #[.slice d1 n1 p1, .slice d2 n2 p2, .slice d3 n3 p3] (0, 0) _ .nilIface rfl rfl HF5.out.1 Try.underlying28 rfl outcome_infoQ) rfl ⟨_, _, _, rfl, HF5.out.2.1, HF5.out.2.2.1, HF5.out.2.2.2.1, HRR.out, HF5.out.2.2.2.2⟩
  · go_wp2_with fail
    exact bodyPost_ret (v := .tuple #[.agg #[.slice d1 n1 p1, .slice d2 n2 p2, .slice d3 n3 p3], .iface 104 (.int .i64 ne)]) (results_twoQ Try.results11 _ _ Z 28 #[.slice d1 n1 p1, .slice d2 n2 p2, .slice d3 n3 p3] (0, 0) _ (.iface 104 (.int .i64 ne)) rfl rfl HF5.out.1 Try.underlying28 rfl outcome_infoQ) rfl ⟨_, _, _, rfl, HF5.out.2.1, HF5.out.2.2.1, HF5.out.2.2.2.1, HRR.out, HF5.out.2.2.2.2⟩
end Go.Proofs.Ytccjognnehoodag
