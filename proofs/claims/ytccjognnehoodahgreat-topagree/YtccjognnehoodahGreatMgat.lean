/-
  PROVED HERE: lanetop.one answers true: one right history of two deals has the order that it should have; old memory stays as it was.
  Conditions: none.
  PROVED HERE: serial.namesEachOnce tells whether a list, sorted, is the other one. Old memory stays as it was.
  Conditions: the second list is of at most 6 numbers.
  PROVED HERE: serial.Serial gives Check's error of a wrong list, ErrShape where the order does not name each deal that commits once, else the ops of what is done, deal by deal along the order. Old memory stays as it was.
  Conditions: none.
  PROVED HERE: odds.names gives each op of a right list with which of its deal's ops it is, in new memory. Old memory stays as it was.
  Conditions: none.
-/
import Derived.Test.YtccjognnehoodahGreatMgas
import Derived.Test.YtccjognnehoodahGreatMgaq
import Derived.Test.YtccjognnehoodahGreatMgap
import Derived.Test.YtccjognnehoodahGreatMgab
import Derived.Test.YtccjognnehoodahGreatMgak
import Derived.Test.YtccjognnehoodahGreatMgaf
namespace Go.Proofs.YtccjognnehoodahGreat
open Go.RowKit

theorem top_four_at (w : World) : OpsAt (w.alloc (.cells #[.int .i64 2, .int .i64 2, .int .i64 1, .int .i64 2, .int .i64 3, .int .i64 0, .int .i64 1, .int .i64 1, .int .i64 1, .int .i64 1, .int .i64 3, .int .i64 0] 51)) w.heap.size 0 [(2, 2, 1), (2, 3, 0), (1, 1, 1), (1, 3, 0)] := by
  intro i hi
  match i, hi with
  | 0, _ => simp
  | 1, _ => simp
  | 2, _ => simp
  | 3, _ => simp
theorem top_fact (w : World) (b : Nat) (hb : b = w.heap.size) :
    Calls Tryz.prog 17 #[.slice (some ⟨b, 0, none⟩) 4 4] (w.alloc (.cells #[.int .i64 2, .int .i64 2, .int .i64 1, .int .i64 2, .int .i64 3, .int .i64 0, .int .i64 1, .int .i64 1, .int .i64 1, .int .i64 1, .int .i64 3, .int .i64 0] 51)) fun e w' => ∃ b1 o1 c1, e = .returned (.tuple #[.slice (some ⟨b1, o1, none⟩) 2 c1, .nilIface]) ∧ w'.cell? ⟨b1, o1, none⟩ = some (.int .i64 2) ∧ Below w.heap.size w w' := by
  subst hb
  have hs : serOrd (doneL [(2, 2, 1), (2, 3, 0), (1, 1, 1), (1, 3, 0)]) = some [2, 1] := by decide +kernel
  refine (ord_any [(2, 2, 1), (2, 3, 0), (1, 1, 1), (1, 3, 0)] (.slice (some ⟨w.heap.size, 0, none⟩) 4 4) _ ⟨some ⟨w.heap.size, 0, none⟩, w.heap.size, 0, 4, rfl, fun _ => rfl, fun h => (by cases h), .inl (by simp), top_four_at w⟩ (by decide +kernel)).mono ?_
  rintro e w' ⟨⟨o, v', ho, rfl, hI⟩ | ⟨hn, -⟩, hb'⟩
  · rw [hs] at ho
    obtain rfl := Option.some.inj ho
    obtain ⟨ad, b, off, cap, rfl, ha, _, _, hops⟩ := hI
    obtain rfl := ha (by simp)
    exact ⟨b, off, cap, rfl, by simpa using hops 0 (by simp), ((Below.refl _ w).alloc (Nat.le_refl _) _).trans (hb'.mono (by simp))⟩
  · rw [hs] at hn; cases hn
set_option maxHeartbeats 2000000 in
theorem one_any (w : World) : Calls Tryz.prog 4 #[] w fun e w' => e = .returned (.bool true) ∧ Below w.heap.size w w' := by
  go_enter Tryz.func4, Tryz.ntmps4
  go_wp2_with fail
  refine (top_fact _ _ (by simp)).mono ?_
  rintro e w1 ⟨b1, o1, c1, rfl, hc1, hb1⟩
  go_wp2_with fail
  go_ret
  exact ⟨rfl, hb1⟩
end Go.Proofs.YtccjognnehoodahGreat

namespace Go.Proofs.YtccjognnehoodahGreat
open Go.RowKit

set_option maxHeartbeats 2000000 in
theorem names_any (o d : List Int) (u v : Value) (w : World) (hu : IsInts w u o) (hv : IsInts w v d) (hd : d.length ≤ 6) :
    Calls Tryz.prog 24 #[u, v] w fun e w' => e = .returned (.bool (sortI o == d)) ∧ Below w.heap.size w w' := by
  by_cases hlen : o.length = d.length
  · have HU : Hid (IsInts w u o) := hu
    have HV : Hid (∀ W, Below w.heap.size w W → IsInts W v d) := fun W hW => hv.below hW (Nat.le_refl _)
    obtain ⟨ad, b, off, cap, hu1, -, -, -, -⟩ := hu
    obtain ⟨ad2, b2, off2, cap2, hv1, -, -, -, -⟩ := hv
    have HL : Hid (o.length ≤ 6) := by show o.length ≤ 6; omega
    have HD : Hid (d.length ≤ 6) := hd
    rw [hlen] at hu1
    obtain ⟨n, hn⟩ : ∃ n, d.length = n := ⟨_, rfl⟩
    rw [hn] at hu1 hv1
    subst hu1 hv1
    clear hn hlen hd
    go_enter Tryz.func24, Tryz.ntmps24
    go_wp2_with fail
    refine (clone_ints o _ _ HU.out (by have := HL.out; omega)).mono ?_
    rintro e w1 ⟨v1, rfl, hown1, hb1⟩
    have HO1 : Hid (w1.ownsRow w.heap.size 3 1 v1 o.length (o.map (Value.int .i64))) := hown1
    clear hown1
    go_wp2_with fail
    refine (sort_own o _ _ _ _ rfl (by have := HL.out; omega) HO1.out).mono ?_
    rintro e w2 ⟨rfl, hown2, hgr2⟩
    have hb2 : Below w.heap.size w w2 := hb1.grown hgr2 hb1.size (fun m hm => (HO1.out.lt m hm).1)
    have HO2 : Hid (IsInts w2 v1 (sortI o)) := isInts_own hown2 (sortI_perm o).length_eq
    clear hown2 hgr2
    go_wp2_with fail
    refine (equal_ints (sortI o) d _ _ _ HO2.out (HV.out _ hb2) (by rw [(sortI_perm o).length_eq]; have := HL.out; omega) (by have := HD.out; omega)).mono ?_
    rintro e w3 ⟨rfl, hb3⟩
    go_wp2_with fail
    go_ret
    exact ⟨rfl, hb2.trans (hb3.mono hb2.size)⟩
  · have HF : Hid ((sortI o == d) = false) := beq_len (by rw [(sortI_perm o).length_eq]; exact hlen)
    obtain ⟨ad, b, off, cap, rfl, -, -, -, -⟩ := hu
    obtain ⟨ad2, b2, off2, cap2, rfl, -, -, -, -⟩ := hv
    have hne : ((o.length : Int) == (d.length : Int)) = false := by
      rw [beq_eq_false_iff_ne]; omega
    clear hlen hd
    go_enter Tryz.func24, Tryz.ntmps24
    go_wp2_with fail
    go_ret
    exact ⟨by rw [HF.out]; rfl, Below.refl _ _⟩
end Go.Proofs.YtccjognnehoodahGreat

namespace Go.Proofs.YtccjognnehoodahGreat
open Go.RowKit

set_option maxHeartbeats 2000000 in
theorem ser_bad (l : List Op3) (v u : Value) (w : World) (h : IsOps w v l) (hc : (chk l).2 ≠ 0) :
    Calls Tryz.prog 7 #[v, u] w fun e w' => e = .returned (.tuple #[.slice none 0 0, .iface 61 (.int .i64 (chk l).2)]) ∧ Below w.heap.size w w' := by
  go_enter Tryz.func7, Tryz.ntmps7
  go_wp2_with (go_at_call 23; refine (ddeals_bad l _ _ h hc).mono ?_; rintro e w1 ⟨rfl, hb1⟩)
  go_ret2
  exact ⟨rfl, hb1⟩
set_option maxHeartbeats 2000000 in
theorem ser_shape (l : List Op3) (o : List Int) (v u : Value) (w : World) (h : IsOps w v l) (hu : IsInts w u o) (hc : (chk l).2 = 0) (hs : (sortI o == dealsL (doneL l)) = false) :
    Calls Tryz.prog 7 #[v, u] w fun e w' => e = .returned (.tuple #[.slice none 0 0, .iface 61 (.int .i64 3)]) ∧ Below w.heap.size w w' := by
  have HUI : Hid (∀ W, Below w.heap.size w W → IsInts W u o) := fun W hW => hu.below hW (Nat.le_refl _)
  have HS : Hid ((sortI o == dealsL (doneL l)) = false) := hs
  clear hu hs
  go_enter Tryz.func7, Tryz.ntmps7
  go_wp2_with fail
  refine (ddeals_ok l _ _ h hc).mono ?_
  rintro e w1 ⟨u1, v1, rfl, hI1, hown1, hb1⟩
  have HD1 : Hid (IsInts w1 v1 (dealsL (doneL l))) := isInts_own hown1 rfl
  clear hI1 hown1 h hc
  go_wp2_with fail
  refine (names_any o (dealsL (doneL l)) _ _ _ (HUI.out _ hb1) HD1.out (dealsTo_len _ 6)).mono ?_
  rintro e w2 ⟨rfl, hb2⟩
  rw [HS.out]
  go_wp2_with fail
  go_ret2
  exact ⟨rfl, hb1.trans (hb2.mono hb1.size)⟩

set_option maxHeartbeats 4000000 in
set_option maxRecDepth 100000 in
theorem ser_ok (l : List Op3) (o : List Int) (v u : Value) (w : World) (h : IsOps w v l) (hu : IsInts w u o) (hc : (chk l).2 = 0) (hs : sortI o = dealsL (doneL l)) :
    Calls Tryz.prog 7 #[v, u] w fun e w' => ∃ v', e = .returned (.tuple #[v', .nilIface]) ∧ IsOps w' v' (alongL (doneL l) o) ∧ Below w.heap.size w w' := by
  have hdd := ddeals_ok l v w h hc
  have hcd := chk_done hc
  have ho6 := order_len hs
  have hod : ∀ x ∈ o, 1 ≤ x ∧ x ≤ 6 ∧ 0 < (ofL (doneL l) x).length := fun x hx => by
    have h1 := mem_deals.1 ((sort_perm hs).mem_iff.1 hx)
    exact ⟨h1.1, h1.2.1, of_some h1.2.2⟩
  obtain ⟨d, hd⟩ : ∃ d, doneL l = d := ⟨_, rfl⟩
  rw [hd] at hdd hcd hs hod ⊢
  have hl40 := chk_len hcd
  have HCD : Hid ((chk d).2 = 0) := hcd
  have HOD : Hid (∀ x ∈ o, 1 ≤ x ∧ x ≤ 6 ∧ 0 < (ofL d x).length) := hod
  have HS : Hid ((sortI o == dealsL d) = true) := by show (sortI o == dealsL d) = true; rw [hs]; simp
  have HD : Hid (Calls Tryz.prog 23 #[v] w fun e w' => ∃ u v', e = .returned (.tuple #[u, v', .nilIface]) ∧ IsOps w' u d ∧ w'.ownsRow w.heap.size 3 1 v' (dealsL d).length ((dealsL d).map (Value.int .i64)) ∧ Below w.heap.size w w') := hdd
  have HUI : Hid (∀ W, Below w.heap.size w W → IsInts W u o) := fun W hW => hu.below hW (Nat.le_refl _)
  have HAL : Hid (∀ k, (alongL d (o.take k)).length ≤ 240) := fun k => by
    have h1 := along_len d (o.take k)
    have h2 : (o.take k).length ≤ 6 := by have := List.length_take_le' k o; omega
    have h3 := Nat.mul_le_mul h2 hl40
    omega
  have HOL : Hid (∀ t, (ofL d t).length ≤ 40) := fun t => Nat.le_trans (List.length_filter_le ..) hl40
  obtain ⟨ad, b, off, cap, rfl, ha, -, hbB, hcl⟩ := hu
  have HU : Hid (∀ W, Below w.heap.size w W → ∀ k, k < o.length → ad = some ⟨b, off, none⟩ ∧ W.cell? ⟨b, off + k, none⟩ = some (.int .i64 (o.getD k 0))) := fun W hW k hk => by
    have hb : b < w.heap.size := by
      rcases hbB with h | h
      · exact h
      · subst h; simp at hk
    exact ⟨ha (by omega), (hW.cell (p := ⟨b, off + k, none⟩) hb).trans (hcl k hk)⟩
  obtain ⟨i0, hi, hz0, hs0, hy0⟩ := info_parts infoOp
  have HI : Hid (Tryz.prog.info? 51 = some i0 ∧ i0.zero = some (.agg #[.int .i64 0, .int .i64 0, .int .i64 0]) ∧ i0.size = 3 ∧ i0.bytes = 24) := ⟨hi, hz0, hs0, hy0⟩
  clear hi hz0 hs0 hy0 hdd hcd hs hod ha hbB hcl h hc hd
  go_enter Tryz.func7, Tryz.ntmps7
  go_wp2_with fail
  refine HD.out.mono ?_
  rintro e w1 ⟨u1, v1, rfl, hI1, hown1, hb1⟩
  have HI1 : Hid (IsOps w1 u1 d) := hI1
  have HD1 : Hid (IsInts w1 v1 (dealsL d)) := isInts_own hown1 rfl
  clear hI1 hown1
  go_wp2_with fail
  refine (names_any o (dealsL d) _ _ _ (HUI.out _ hb1) HD1.out (dealsTo_len _ 6)).mono ?_
  rintro e w2 ⟨rfl, hb2⟩
  rw [HS.out]
  have HB2 : Hid (Below w.heap.size w w2) := hb1.trans (hb2.mono hb1.size)
  have HI2 : Hid (∀ W, Below w2.heap.size w2 W → IsOps W u1 d) := fun W hW => (HI1.out.below hb2 (Nat.le_refl _)).below hW (Nat.le_refl _)
  have HU2 : Hid (∀ W, Below w2.heap.size w2 W → ∀ k, k < o.length → ad = some ⟨b, off, none⟩ ∧ W.cell? ⟨b, off + k, none⟩ = some (.int .i64 (o.getD k 0))) := fun W hW => HU.out W (HB2.out.trans (hW.mono HB2.out.size))
  clear hb1 hb2
  go_wp2_with fail
  go_loopw [9, 30] (fun v9 v30 wr => ∃ k : Nat, k ≤ o.length ∧ v30 = .int .i64 k ∧ wr.ownsRow w2.heap.size 51 3 v9 (alongL d (o.take k)).length (flat (alongL d (o.take k))) ∧ Below w2.heap.size w2 wr) (fun _ v30 _ => o.length - (intOf v30).toNat)
  case atStart => exact ⟨0, Nat.zero_le _, rfl, World.ownsRow_nil _ _ _ _, Below.refl _ _⟩
  case round =>
    obtain ⟨k, hk, rfl, hown, hbel⟩ := hrel
    have hsz := hbel.size
    by_cases hlt : k < o.length
    · have hlt' : (k : Int) < (o.length : Int) := by omega
      obtain ⟨hadr, c0⟩ := HU2.out wr hbel k hlt
      subst hadr
      obtain ⟨t, ht⟩ : ∃ t, o.getD k 0 = t := ⟨_, rfl⟩
      rw [ht] at c0
      have htm : t ∈ o := by rw [← ht]; simp [List.getD, List.getElem?_eq_getElem hlt]
      have HT : Hid (alongL d (o.take (k + 1)) = alongL d (o.take k) ++ ofL d t) := by
        show alongL d (o.take (k + 1)) = alongL d (o.take k) ++ ofL d t
        rw [List.take_succ_eq_append_getElem hlt, ← along_snoc, ← ht]; simp [List.getD, List.getElem?_eq_getElem hlt]
      have HTT : Hid (1 ≤ t ∧ t ≤ 6 ∧ 0 < (ofL d t).length) := HOD.out t htm
      clear ht htm
      have HOWN : Hid (wr.ownsRow w2.heap.size 51 3 u9 (alongL d (o.take k)).length (flat (alongL d (o.take k)))) := hown
      have ha1 := HAL.out k
      obtain ⟨al, hal⟩ : ∃ al, alongL d (o.take k) = al := ⟨_, rfl⟩
      rw [hal] at HT HOWN ha1
      obtain ⟨n1, hn1⟩ : ∃ n1, al.length = n1 := ⟨_, rfl⟩
      rw [hn1] at HOWN ha1
      have HN1 : Hid (al.length = n1) := hn1
      clear hown hal hn1
      go_wp2_with fail
      refine (of_ok d u1 t _ (HI2.out wr hbel) HCD.out HTT.out.1 HTT.out.2.1).mono ?_
      rintro e w3 ⟨v3, rfl, hI3, hb3⟩
      have HB3 : Hid (Below w2.heap.size w2 w3) := hbel.trans (hb3.mono hsz)
      have HOWN3 : Hid (w3.ownsRow w2.heap.size 51 3 u9 n1 (flat al)) := own_below HOWN.out hb3 (Nat.le_refl _)
      have hsz3 := HB3.out.size
      have ho1 := HOL.out t
      obtain ⟨ol, hol⟩ : ∃ ol, ofL d t = ol := ⟨_, rfl⟩
      rw [hol] at hI3 HT HTT ho1
      obtain ⟨ad3, b3, off3, cap3, rfl, ha3, -, -, hops3⟩ := hI3
      have hpos := HTT.out.2.2
      obtain rfl := ha3 hpos
      have HS3 : Hid (∀ j u, (flat ol)[j]? = some u → w3.cell? ⟨b3, off3 + j, none⟩ = some u) := hops3.flat
      obtain ⟨n3, hn3⟩ : ∃ n3, ol.length = n3 := ⟨_, rfl⟩
      rw [hn3] at ho1 hpos ⊢
      have HN3 : Hid (ol.length = n3) := hn3
      clear hol ha3 hops3 hn3 hb3 HOWN
      go_wp2_with (at_builtin; refine wpList_append_own _ rfl (.tmp 43) (.tmp 44) 22 rfl w2.heap.size 51 i0 (.agg #[.int .i64 0, .int .i64 0, .int .i64 0]) 3 24 Tryz.underlying22 HI.out.1 HI.out.2.1 HI.out.2.2.1 HI.out.2.2.2 rfl (by decide) u9 n1 (flat al) rfl HOWN3.out ⟨b3, off3, none⟩ n3 cap3 (flat ol) rfl (by rw [flat_length, HN3.out]) (fun j u hj => by rw [Addr.add_lit]; exact HS3.out j u hj) (flat_one _) (by unfold maxLen; omega) (by omega) (by omega) ?_; intro v4 w4 hown4 hgr4 hnil4)
      have hB4 := HB3.out.grown hgr4 hsz3 (fun m hm => (HOWN3.out.lt m hm).1)
      go_roundw
      case rel => exact ⟨k + 1, by omega, by go_num, by rw [HT.out, flat_append, List.length_append, HN1.out, HN3.out]; exact hown4, hB4⟩
      case measure => simp [intOf]; omega
    · have hlt' : ¬ (k : Int) < (o.length : Int) := by omega
      have HOP : Hid (IsOps wr u9 (alongL d o)) := by
        show IsOps wr u9 (alongL d o)
        have h1 := isOps_own hown rfl
        rw [List.take_of_length_le (by omega)] at h1
        exact h1
      clear hown
      go_wp2_with fail
      go_ret2
      exact ⟨_, rfl, HOP.out, HB2.out.trans (hbel.mono HB2.out.size)⟩
end Go.Proofs.YtccjognnehoodahGreat

namespace Go.Proofs.YtccjognnehoodahGreat
open Go.RowKit

/-- A name: an op, and which of its deal's ops it is. -/
abbrev Nm := Op3 × Nat
def flatN : List Nm → List Value
  | [] => []
  | o :: r => .int .i64 o.1.1 :: .int .i64 o.1.2.1 :: .int .i64 o.1.2.2 :: .int .i64 o.2 :: flatN r
theorem flatN_length (l : List Nm) : (flatN l).length = l.length * 4 := by
  induction l with
  | nil => rfl
  | cons o r ih => simp [flatN, ih]; omega
theorem flatN_append (l m : List Nm) : flatN (l ++ m) = flatN l ++ flatN m := by
  induction l with
  | nil => rfl
  | cons o r ih => simp [flatN, ih]
theorem flatN_one (l : List Nm) : ∀ u ∈ flatN l, u.oneCell' = true := by
  induction l with
  | nil => intro u hu; cases hu
  | cons o r ih =>
    intro u hu
    simp only [flatN, List.mem_cons] at hu
    rcases hu with rfl | rfl | rfl | rfl | hu
    · rfl
    · rfl
    · rfl
    · rfl
    · exact ih u hu
def nmAt (l : List Nm) (i : Nat) : Nm := l.getD i ((0, 0, 0), 0)
theorem flatN_at (l : List Nm) : ∀ i, i < l.length → (flatN l)[i * 4]? = some (.int .i64 (nmAt l i).1.1) ∧ (flatN l)[i * 4 + 1]? = some (.int .i64 (nmAt l i).1.2.1) ∧ (flatN l)[i * 4 + 2]? = some (.int .i64 (nmAt l i).1.2.2) ∧ (flatN l)[i * 4 + 3]? = some (.int .i64 (nmAt l i).2) := by
  induction l with
  | nil => intro i hi; cases hi
  | cons o r ih =>
    intro i hi
    cases i with
    | zero => exact ⟨rfl, rfl, rfl, rfl⟩
    | succ i =>
      have := ih i (by simpa using hi)
      rw [show (i + 1) * 4 = i * 4 + 4 by omega]
      simpa [flatN, nmAt] using this
/-- Names lie in memory, four numbers each. -/
def NamesAt (w : World) (b off : Nat) (l : List Nm) : Prop :=
  ∀ i, i < l.length → w.cell? ⟨b, off + i * 4, none⟩ = some (.int .i64 (nmAt l i).1.1) ∧ w.cell? ⟨b, off + i * 4 + 1, none⟩ = some (.int .i64 (nmAt l i).1.2.1) ∧ w.cell? ⟨b, off + i * 4 + 2, none⟩ = some (.int .i64 (nmAt l i).1.2.2) ∧ w.cell? ⟨b, off + i * 4 + 3, none⟩ = some (.int .i64 (nmAt l i).2)
theorem NamesAt.below {w w1 : World} {b off B : Nat} {l : List Nm} (h : NamesAt w b off l) (hb : Below B w w1) (hB : b < B ∨ l = []) : NamesAt w1 b off l := by
  intro i hi
  have hB' : b < B := by
    rcases hB with h | h
    · exact h
    · subst h; cases hi
  rw [hb.cell (p := ⟨b, off + i * 4, none⟩) hB', hb.cell (p := ⟨b, off + i * 4 + 1, none⟩) hB', hb.cell (p := ⟨b, off + i * 4 + 2, none⟩) hB', hb.cell (p := ⟨b, off + i * 4 + 3, none⟩) hB']
  exact h i hi
/-- A slice value that holds names. -/
def IsNames (w : World) (v : Value) (l : List Nm) : Prop :=
  ∃ (ad : Option Addr) (b off cap : Nat), v = .slice ad l.length cap ∧ (0 < l.length → ad = some ⟨b, off, none⟩) ∧ (b < w.heap.size ∨ l = []) ∧ NamesAt w b off l
theorem isNames_own {w : World} {base e n : Nat} {v : Value} {l : List Nm} (h : w.ownsRow base e 4 v n (flatN l)) (hl : l.length = n) : IsNames w v l := by
  have h' := h
  obtain ⟨_, ⟨hv, hd⟩ | ⟨g, cap, cur, hv, hb, hg, hn, hm, hsz, htk⟩⟩ := h'
  · have : l = [] := List.length_eq_zero_iff.1 (by omega)
    subst this
    rw [hv]
    exact ⟨none, 0, 0, 0, rfl, fun h => absurd h (by simp), .inr rfl, fun i hi => by simp at hi⟩
  · have hc : ∀ j u, (flatN l)[j]? = some u → w.cell? ⟨g, 0 + j, none⟩ = some u := fun j u hj => by
      have := h.cells (g := g) (by rw [hv]; rfl) j u hj
      rw [Addr.add_lit] at this
      exact this
    refine ⟨some ⟨g, 0, none⟩, g, 0, cap, by rw [hl]; exact hv, fun _ => rfl, .inl (h.lt g (by rw [hv]; rfl)).2, fun i hi => ?_⟩
    obtain ⟨h0, h1, h2, h3⟩ := flatN_at l i hi
    exact ⟨hc _ _ h0, by rw [Nat.add_assoc]; exact hc _ _ h1, by rw [Nat.add_assoc]; exact hc _ _ h2, by rw [Nat.add_assoc]; exact hc _ _ h3⟩
theorem infoName : (Tryz.prog.info? 97).map (fun i => (i.zero, i.size, i.bytes)) = some (some (.agg #[.int .i64 0, .int .i64 0, .int .i64 0, .int .i64 0]), 4, 32) := by kernel_rfl
def namesTo (l : List Op3) (k : Nat) : List Nm := (List.range k).map (nameAt l)
theorem namesTo_len (l : List Op3) (k : Nat) : (namesTo l k).length = k := by simp [namesTo]
theorem namesTo_succ (l : List Op3) (k : Nat) : namesTo l (k + 1) = namesTo l k ++ [nameAt l k] := by
  unfold namesTo
  rw [List.range_succ, List.map_append]; rfl
theorem nmAt_names (l : List Op3) (n k : Nat) (h : k < n) : nmAt (namesTo l n) k = nameAt l k := by
  simp [nmAt, namesTo, List.getD, h]
/-- How often each deal did something so far. -/
def HadAt (w : World) (B : Nat) (l : List Op3) : Prop := ∀ j, j < 7 → w.cell? ⟨B, j, none⟩ = some (.int .i64 (ofL l (j : Nat)).length) ∧ w.frozen? ⟨B, j, none⟩ = false

theorem HadAt.lt {w : World} {B : Nat} {l : List Op3} (h : HadAt w B l) : B < w.heap.size := World.block_lt_of_cell? w _ (h 0 (by omega)).1
theorem had_start (l : List Op3) (w : World) : HadAt (w.alloc (.cells #[.int .i64 0, .int .i64 0, .int .i64 0, .int .i64 0, .int .i64 0, .int .i64 0, .int .i64 0] 194)) w.heap.size (List.take 0 l) := by
  intro j hj
  match j, hj with
  | 0, _ => exact ⟨by simp [ofL], by simp⟩
  | 1, _ => exact ⟨by simp [ofL], by simp⟩
  | 2, _ => exact ⟨by simp [ofL], by simp⟩
  | 3, _ => exact ⟨by simp [ofL], by simp⟩
  | 4, _ => exact ⟨by simp [ofL], by simp⟩
  | 5, _ => exact ⟨by simp [ofL], by simp⟩
  | 6, _ => exact ⟨by simp [ofL], by simp⟩
theorem HadAt.same {w w' : World} {B : Nat} {l : List Op3} (h : HadAt w B l) (hb : w'.heap[B]? = w.heap[B]?) : HadAt w' B l := fun j hj =>
  ⟨(World.cell?_of_block (a := ⟨B, j, none⟩) hb).trans (h j hj).1, (World.frozen?_of_block (a := ⟨B, j, none⟩) hb).trans (h j hj).2⟩
theorem HadAt.step {w : World} {B : Nat} {l : List Op3} {o : Op3} (h : HadAt w B l) (h1 : 1 ≤ o.1) (h6 : o.1 ≤ 6) : HadAt (w.setCell ⟨B, o.1.toNat, none⟩ (.int .i64 ((ofL l o.1).length + 1))) B (l ++ [o]) := by
  intro j hj
  obtain ⟨hc, hf⟩ := h j hj
  obtain ⟨hct, _⟩ := h o.1.toNat (by omega)
  constructor
  · by_cases hjt : j = o.1.toNat
    · subst hjt
      rw [World.cell?_setCell_same _ _ _ hct, show ((o.1.toNat : Nat) : Int) = o.1 by omega, ofL_append, ofL_cons, if_pos rfl]
      simp [ofL]
    · rw [World.cell?_setCell_other _ _ _ _ (by intro he; injection he with _ he2 _; exact hjt he2.symm), hc, ofL_append, ofL_cons, if_neg (by omega)]
      simp [ofL]
  · simpa using hf
theorem own_beside {w : World} {base e s n : Nat} {v : Value} {xs : List Value} (h : w.ownsRow base e s v n xs) {B j : Nat} (hB : B < base) (u : Value) : (w.setCell ⟨B, j, none⟩ u).ownsRow base e s v n xs :=
  h.kept (row := some B) ⟨rfl, rfl, rfl, by simp, fun k _ hk => heap_setCell_other w ⟨B, j, none⟩ k u (fun e => hk (by simp [e]))⟩ (.inr fun he => by have := (h.lt B he).1; omega)
theorem one_name (w : World) (t a x : Int) (m : Nat) : ∀ j u, (flatN [((t, a, x), m)])[j]? = some u → (w.alloc (.cells #[.int .i64 t, .int .i64 a, .int .i64 x, .int .i64 m] 97)).cell? ((⟨w.heap.size, 0, none⟩ : Addr).add j) = some u := by
  intro j u hj
  match j, hj with
  | 0, hj => simp [flatN] at hj; subst hj; simp [Addr.add]
  | 1, hj => simp [flatN] at hj; subst hj; simp [Addr.add]
  | 2, hj => simp [flatN] at hj; subst hj; simp [Addr.add]
  | 3, hj => simp [flatN] at hj; subst hj; simp [Addr.add]
  | k + 4, hj => simp [flatN] at hj

set_option maxHeartbeats 4000000 in
theorem onames_any (l : List Op3) (v : Value) (w : World) (hI : IsOps w v l) (hl : l.length ≤ 40) (hin : ∀ o ∈ l, 1 ≤ o.1 ∧ o.1 ≤ 6) :
    Calls Tryz.prog 115 #[v] w fun e w' => ∃ v', e = .returned v' ∧ IsNames w' v' (namesTo l l.length) ∧ Below w.heap.size w w' := by
  obtain ⟨ad, b, off, cap, rfl, ha, _, hbB, hops⟩ := hI
  have HO : Hid (∀ W, Below w.heap.size w W → ∀ k, k < l.length → ad = some ⟨b, off, none⟩ ∧ W.cell? ⟨b, off + k * 3, none⟩ = some (.int .i64 (opAt l k).1) ∧ W.cell? ⟨b, off + k * 3 + 1, none⟩ = some (.int .i64 (opAt l k).2.1) ∧ W.cell? ⟨b, off + k * 3 + 2, none⟩ = some (.int .i64 (opAt l k).2.2)) := fun W hW k hk => ⟨ha (by omega), (hops.below hW hbB) k hk⟩
  clear ha hbB hops
  obtain ⟨i0, hi, hz0, hs0, hy0⟩ := info_parts infoName
  have HI : Hid (Tryz.prog.info? 97 = some i0 ∧ i0.zero = some (.agg #[.int .i64 0, .int .i64 0, .int .i64 0, .int .i64 0]) ∧ i0.size = 4 ∧ i0.bytes = 32) := ⟨hi, hz0, hs0, hy0⟩
  clear hi hz0 hs0 hy0
  go_enter Tryz.func115, Tryz.ntmps115
  go_wp2
  go_loopw [4, 9] (fun v4 v9 wr => ∃ k : Nat, k ≤ l.length ∧ v9 = .int .i64 k ∧ wr.ownsRow (w.heap.size + 1) 97 4 v4 k (flatN (namesTo l k)) ∧ HadAt wr w.heap.size (l.take k) ∧ Below w.heap.size w wr) (fun _ v9 _ => l.length - (intOf v9).toNat)
  case atStart => exact ⟨0, Nat.zero_le _, rfl, World.ownsRow_nil _ _ _ _, had_start l w, (Below.refl _ w).alloc (Nat.le_refl _) _⟩
  case round =>
    obtain ⟨k, hk, rfl, hown, hhad, hbel⟩ := hrel
    have hsz := hbel.size
    by_cases hlt : k < l.length
    · obtain ⟨rfl, c0, c1, c2⟩ := HO.out wr hbel k hlt
      obtain ⟨⟨t, a, x⟩, ho⟩ : ∃ o : Op3, opAt l k = o := ⟨_, rfl⟩
      rw [ho] at c0 c1 c2
      have ht := hin (t, a, x) (by rw [← ho]; exact opAt_mem hlt)
      obtain ⟨ht1, ht6⟩ := ht
      simp only at c0 c1 c2 ht1 ht6
      obtain ⟨g0, g1⟩ := hhad t.toNat (by omega)
      rw [show ((t.toNat : Nat) : Int) = t by omega] at g0
      have HT : Hid (l.take (k + 1) = l.take k ++ [(t, a, x)]) := by
        show l.take (k + 1) = l.take k ++ [(t, a, x)]
        rw [List.take_succ_eq_append_getElem hlt, ← ho]; simp [opAt, List.getD, List.getElem?_eq_getElem hlt]
      obtain ⟨m, hm⟩ : ∃ m, (ofL (l.take k) t).length = m := ⟨_, rfl⟩
      rw [hm] at g0
      have HNM : Hid (nameAt l k = ((t, a, x), m)) := by
        show nameAt l k = ((t, a, x), m)
        unfold nameAt nthAt; rw [ho, hm]
      have HM : Hid ((ofL (l.take k) t).length = m) := hm
      have hm40 : m ≤ 40 := by
        rw [← hm]
        have h1 := List.length_filter_le (fun o : Op3 => o.1 == t) (l.take k)
        have h2 : (l.take k).length ≤ k := List.length_take_le _ _
        unfold ofL; omega
      have HHAD : Hid (HadAt wr w.heap.size (l.take k)) := hhad
      have HOWN : Hid (wr.ownsRow (w.heap.size + 1) 97 4 u4 k (flatN (namesTo l k))) := hown
      have hhl := hhad.lt
      clear ho hm hhad hown HO
      go_wp2_with fail
      obtain ⟨W, hW⟩ : ∃ W, W = wr.alloc (.cells #[.int .i64 t, .int .i64 a, .int .i64 x] 51) := ⟨_, rfl⟩
      obtain ⟨P, hP⟩ : ∃ P, P = wr.heap.size := ⟨_, rfl⟩
      have p0 : W.cell? ⟨P, 0, none⟩ = some (.int .i64 t) := by rw [hW, hP]; simp
      have p1 : W.cell? ⟨P, 1, none⟩ = some (.int .i64 a) := by rw [hW, hP]; simp
      have p2 : W.cell? ⟨P, 2, none⟩ = some (.int .i64 x) := by rw [hW, hP]; simp
      have q0 : W.cell? ⟨w.heap.size, t.toNat, none⟩ = some (.int .i64 m) := by rw [hW, World.cell?_alloc_lt _ _ ⟨w.heap.size, t.toNat, none⟩ hhl]; exact g0
      have HOW : Hid (W.ownsRow (w.heap.size + 1) 97 4 u4 k (flatN (namesTo l k))) := by
        show W.ownsRow (w.heap.size + 1) 97 4 u4 k (flatN (namesTo l k))
        rw [hW]; exact HOWN.out.alloc _
      have HHW : Hid (HadAt W w.heap.size (l.take k)) := by
        show HadAt W w.heap.size (l.take k)
        refine HHAD.out.same ?_
        rw [hW]; exact ((Below.refl _ wr).alloc (Nat.le_refl _) _).block _ hhl
      have hbW : Below w.heap.size w W := by rw [hW]; exact hbel.alloc hsz _
      have hPW : P < W.heap.size := World.block_lt_of_cell? W _ p0
      have hPo : ∀ g, u4.ownBlock = some g → g < P := fun g hg => by rw [hP]; exact (HOWN.out.lt g hg).2
      have hWs : w.heap.size < P := by omega
      have HPO : Hid (∀ g, u4.ownBlock = some g → g < P) := hPo
      rw [← hW, ← hP]
      clear hW hP hPo HOWN HHAD g0 g1 c0 c1 c2 hbel
      have hb7 : 0 ≤ t ∧ t < 7 := by omega
      go_region_law (refine step_append_own rfl (.tmp 13) (.tmp 20) 92 rfl (w.heap.size + 1) 97 i0 (.agg #[.int .i64 0, .int .i64 0, .int .i64 0, .int .i64 0]) 4 32 Tryz.underlying92 HI.out.1 HI.out.2.1 HI.out.2.2.1 HI.out.2.2.2 rfl (by decide) u4 k (flatN (namesTo l k)) (by simp [Act.eval]) (HOW.out.alloc _) ⟨W.heap.size, 0, none⟩ 1 1 (flatN [((t, a, x), m)]) (by simp [Act.eval]) rfl (one_name W t a x m) (flatN_one _) (by unfold maxLen; omega) (by omega) (by simp; omega) ?_; intro v1 w1 hown1 hgr1 hnil1)
      all_goals
        have e0 : w1.cell? ⟨P, 0, none⟩ = some (.int .i64 t) := hgr1.cell (by rw [World.cell?_drew, World.cell?_alloc_lt _ _ ⟨P, 0, none⟩ hPW]; exact p0) (fun he => by have := HPO.out P he.symm; omega)
        have hblk : w1.heap[w.heap.size]? = W.heap[w.heap.size]? := (hgr1.block w.heap.size (by simp; omega) (fun he => by have := (HOW.out.lt _ he.symm).1; omega)).trans (((Below.refl _ W).alloc (Nat.le_refl _) _).block _ (by omega))
        have hh1 : HadAt w1 w.heap.size (l.take k) := HHW.out.same hblk
        obtain ⟨r0, r1⟩ := hh1 t.toNat (by omega)
        rw [show ((t.toNat : Nat) : Int) = t by omega, HM.out] at r0
        have HH1 : Hid (HadAt w1 w.heap.size (l.take k)) := hh1
        have HO1 : Hid (w1.ownsRow (w.heap.size + 1) 97 4 v1 (k + 1) (flatN (namesTo l k) ++ flatN [((t, a, x), m)])) := hown1
        have hB1 := (hbW.alloc hbW.size _).drew.grown hgr1 (by simp; omega) (fun g hg => by have := (HOW.out.lt g hg).1; omega)
        clear hh1 hown1 hblk p0 p1 p2 q0
        go_wp2
        go_roundw
        case rel => exact ⟨k + 1, by omega, by go_num, by rw [namesTo_succ, HNM.out, flatN_append]; exact own_beside HO1.out (by omega) _, by rw [HT.out]; have := HH1.out.step (o := (t, a, x)) ht1 ht6; rw [HM.out] at this; exact this, hB1.setCell (by exact Nat.le_refl _) _⟩
        case measure => simp [intOf]; omega
    · go_wp2
      go_ret
      have hkl : k = l.length := by omega
      subst hkl
      exact ⟨_, rfl, isNames_own hown (namesTo_len _ _), hbel⟩
end Go.Proofs.YtccjognnehoodahGreat
