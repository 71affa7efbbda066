/-
  PROVED HERE: slices.IndexFunc and slices.ContainsFunc over a slice of edges, for the two closures that package graph hands them: they tell whether there is one that the closure says yes to, where the closure answers by a plain test and leaves old memory as it was. graph.Check's answer, for any edges.
  Conditions: none.
  PROVED HERE: slices.Index and slices.Contains on a row of bools; graph.next gives the least deal that waits for nobody who is waiting, 0 if there is none. Old memory stays as it was.
  Conditions: none.
  PROVED HERE: graph.Order gives the order that the plain function of the text GraphPlain2 makes of right edges, ErrCycle where it goes around, and of any other edges Check's error. Old memory stays as it was.
  Conditions: none.
  PROVED HERE: serial.Order gives Check's error of a wrong list, ErrCycle where it goes around, else the order of all deals that commit, the least that could be next first. Old memory stays as it was.
  Conditions: none.
-/
import Derived.Test.YtccjognnehoodahGreatMgaf
import Derived.Deep.Onto
import Derived.Test.YtccjognnehoodahGreatMgac
import Derived.Maps.AppendAt
import Derived.Test.YtccjognnehoodahGreatMgap
import Derived.Test.YtccjognnehoodahGreatMgar
import Derived.Test.YtccjognnehoodahGreatMgam
import Derived.RegionTactic
import Derived.Deep.RegionWith
namespace Go.Proofs.YtccjognnehoodahGreat
open Go.RowKit

theorem ret_bool' {a b : Bool} (h : a = b) : Ending.returned (.bool a) = .returned (.bool b) := by rw [h]
theorem gany_snoc {q : Edge2 → Bool} {l : List Edge2} {k : Nat} {e : Edge2} (h : l.take (k + 1) = l.take k ++ [e]) (h1 : (l.take k).any q = false) (h2 : q e = false) : (l.take (k + 1)).any q = false := by
  rw [h, List.any_append, h1]; simp [h2]
theorem gany_hit {q : Edge2 → Bool} {l : List Edge2} {e : Edge2} (h : e ∈ l) (h2 : q e = true) : l.any q = true := List.any_eq_true.2 ⟨e, h, h2⟩

set_option maxHeartbeats 4000000 in
theorem index_next (l : List Edge2) (v : Value) (q : Edge2 → Bool) (p1 p2 : Value) (w : World) (hI : IsEdges w v l) (hlen : l.length ≤ 140737488351)
    (hp : ∀ W : World, Below w.heap.size w W → ∀ e ∈ l, Calls Tryz.prog 121 #[.agg #[.int .i64 e.1, .int .i64 e.2], p1, p2] W fun r w' => r = .returned (.bool (q e)) ∧ Below W.heap.size W w') :
    Calls Tryz.prog 117 #[v, .func (.func 121) #[] #[p1, p2]] w fun r w' => ∃ n : Int, r = .returned (.int .i64 n) ∧ (decide (0 ≤ n) = l.any q) ∧ Below w.heap.size w w' := by
  obtain ⟨ad, b, off, cap, rfl, ha, _, hbB, hops⟩ := hI
  have HO : Hid (∀ W, Below w.heap.size w W → ∀ k, k < l.length → ad = some ⟨b, off, none⟩ ∧ W.cell? ⟨b, off + k * 2, none⟩ = some (.int .i64 (l.getD k (0, 0)).1) ∧ W.cell? ⟨b, off + k * 2 + 1, none⟩ = some (.int .i64 (l.getD k (0, 0)).2)) := fun W hW k hk => ⟨ha (by omega), (hops.below hW hbB) k hk⟩
  have HP : Hid (∀ W : World, Below w.heap.size w W → ∀ e ∈ l, Calls Tryz.prog 121 #[.agg #[.int .i64 e.1, .int .i64 e.2], p1, p2] W fun r w' => r = .returned (.bool (q e)) ∧ Below W.heap.size W w') := hp
  clear ha hbB hops hp
  go_enter Tryz.func117, Tryz.ntmps117
  go_wp2
  go_loopw [8] (fun v8 wr => ∃ k : Nat, k ≤ l.length ∧ v8 = .int .i64 k ∧ (l.take k).any q = false ∧ Below w.heap.size w wr) (fun v8 _ => l.length - (intOf v8).toNat)
  case atStart => exact ⟨0, Nat.zero_le _, rfl, by simp, Below.refl _ _⟩
  case round =>
    obtain ⟨k, hk, rfl, hno, hbel⟩ := hrel
    have HNO : Hid ((l.take k).any q = false) := hno
    clear hno
    have hsz := hbel.size
    by_cases hlt : k < l.length
    · obtain ⟨rfl, c0, c1⟩ := HO.out wr hbel k hlt
      obtain ⟨⟨t, a⟩, ho⟩ : ∃ o : Edge2, l.getD k (0, 0) = o := ⟨_, rfl⟩
      rw [ho] at c0 c1
      have hmem : (t, a) ∈ l := by rw [← ho]; simp [List.getD, List.getElem?_eq_getElem hlt]
      have HT : Hid (l.take (k + 1) = l.take k ++ [(t, a)]) := by
        show l.take (k + 1) = l.take k ++ [(t, a)]
        rw [List.take_succ_eq_append_getElem hlt, ← ho]; simp [List.getD, List.getElem?_eq_getElem hlt]
      have HM : Hid ((t, a) ∈ l) := hmem
      clear ho HO hmem
      simp only at c0 c1
      cases hq : q (t, a) with
      | false =>
        have HQ : Hid (q (t, a) = false) := hq
        have HC : Hid (Calls Tryz.prog 121 #[.agg #[.int .i64 t, .int .i64 a], p1, p2] wr fun r w' => r = .returned (.bool false) ∧ Below wr.heap.size wr w') := hq ▸ HP.out wr hbel _ HM.out
        clear hq
        go_wp2_with (go_at_call 121; refine HC.out.mono ?_; rintro e w1 ⟨rfl, hb1⟩)
        go_roundw
        case rel => exact ⟨k + 1, by omega, by go_num, gany_snoc HT.out HNO.out HQ.out, hbel.trans (hb1.mono hsz)⟩
        case measure => simp [intOf]; omega
      | true =>
        have HQ : Hid (q (t, a) = true) := hq
        have HC : Hid (Calls Tryz.prog 121 #[.agg #[.int .i64 t, .int .i64 a], p1, p2] wr fun r w' => r = .returned (.bool true) ∧ Below wr.heap.size wr w') := hq ▸ HP.out wr hbel _ HM.out
        clear hq
        go_wp2_with (go_at_call 121; refine HC.out.mono ?_; rintro e w1 ⟨rfl, hb1⟩)
        go_ret
        exact ⟨_, rfl, by rw [gany_hit HM.out HQ.out]; simp, hbel.trans (hb1.mono hsz)⟩
    · go_wp2
      go_ret
      refine ⟨_, rfl, ?_, hbel⟩
      have h0 := HNO.out
      rw [List.take_of_length_le (by omega)] at h0
      rw [h0]; simp
theorem contains_next (l : List Edge2) (v : Value) (q : Edge2 → Bool) (p1 p2 : Value) (w : World) (hI : IsEdges w v l) (hlen : l.length ≤ 140737488351)
    (hp : ∀ W : World, Below w.heap.size w W → ∀ e ∈ l, Calls Tryz.prog 121 #[.agg #[.int .i64 e.1, .int .i64 e.2], p1, p2] W fun r w' => r = .returned (.bool (q e)) ∧ Below W.heap.size W w') :
    Calls Tryz.prog 88 #[v, .func (.func 121) #[] #[p1, p2]] w fun r w' => r = .returned (.bool (l.any q)) ∧ Below w.heap.size w w' := by
  have HC : Hid (Calls Tryz.prog 117 #[v, .func (.func 121) #[] #[p1, p2]] w fun r w' => ∃ n : Int, r = .returned (.int .i64 n) ∧ (decide (0 ≤ n) = l.any q) ∧ Below w.heap.size w w') := index_next l v q p1 p2 w hI hlen hp
  clear hp hI
  go_enter Tryz.func88, Tryz.ntmps88
  go_wp2_with (go_at_call 117; refine HC.out.mono ?_; rintro e w1 ⟨n, rfl, hn, hb1⟩)
  all_goals go_ret
  all_goals exact ⟨ret_bool' (by simp_all), hb1⟩

set_option maxHeartbeats 4000000 in
theorem index_wrong (l : List Edge2) (v : Value) (q : Edge2 → Bool) (w : World) (hI : IsEdges w v l) (hlen : l.length ≤ 140737488351)
    (hp : ∀ W : World, Below w.heap.size w W → ∀ e ∈ l, Calls Tryz.prog 118 #[.agg #[.int .i64 e.1, .int .i64 e.2]] W fun r w' => r = .returned (.bool (q e)) ∧ Below W.heap.size W w') :
    Calls Tryz.prog 117 #[v, .func (.func 118) #[] #[]] w fun r w' => ∃ n : Int, r = .returned (.int .i64 n) ∧ (decide (0 ≤ n) = l.any q) ∧ Below w.heap.size w w' := by
  obtain ⟨ad, b, off, cap, rfl, ha, _, hbB, hops⟩ := hI
  have HO : Hid (∀ W, Below w.heap.size w W → ∀ k, k < l.length → ad = some ⟨b, off, none⟩ ∧ W.cell? ⟨b, off + k * 2, none⟩ = some (.int .i64 (l.getD k (0, 0)).1) ∧ W.cell? ⟨b, off + k * 2 + 1, none⟩ = some (.int .i64 (l.getD k (0, 0)).2)) := fun W hW k hk => ⟨ha (by omega), (hops.below hW hbB) k hk⟩
  have HP : Hid (∀ W : World, Below w.heap.size w W → ∀ e ∈ l, Calls Tryz.prog 118 #[.agg #[.int .i64 e.1, .int .i64 e.2]] W fun r w' => r = .returned (.bool (q e)) ∧ Below W.heap.size W w') := hp
  clear ha hbB hops hp
  go_enter Tryz.func117, Tryz.ntmps117
  go_wp2
  go_loopw [8] (fun v8 wr => ∃ k : Nat, k ≤ l.length ∧ v8 = .int .i64 k ∧ (l.take k).any q = false ∧ Below w.heap.size w wr) (fun v8 _ => l.length - (intOf v8).toNat)
  case atStart => exact ⟨0, Nat.zero_le _, rfl, by simp, Below.refl _ _⟩
  case round =>
    obtain ⟨k, hk, rfl, hno, hbel⟩ := hrel
    have HNO : Hid ((l.take k).any q = false) := hno
    clear hno
    have hsz := hbel.size
    by_cases hlt : k < l.length
    · obtain ⟨rfl, c0, c1⟩ := HO.out wr hbel k hlt
      obtain ⟨⟨t, a⟩, ho⟩ : ∃ o : Edge2, l.getD k (0, 0) = o := ⟨_, rfl⟩
      rw [ho] at c0 c1
      have hmem : (t, a) ∈ l := by rw [← ho]; simp [List.getD, List.getElem?_eq_getElem hlt]
      have HT : Hid (l.take (k + 1) = l.take k ++ [(t, a)]) := by
        show l.take (k + 1) = l.take k ++ [(t, a)]
        rw [List.take_succ_eq_append_getElem hlt, ← ho]; simp [List.getD, List.getElem?_eq_getElem hlt]
      have HM : Hid ((t, a) ∈ l) := hmem
      clear ho HO hmem
      simp only at c0 c1
      cases hq : q (t, a) with
      | false =>
        have HQ : Hid (q (t, a) = false) := hq
        have HC : Hid (Calls Tryz.prog 118 #[.agg #[.int .i64 t, .int .i64 a]] wr fun r w' => r = .returned (.bool false) ∧ Below wr.heap.size wr w') := hq ▸ HP.out wr hbel _ HM.out
        clear hq
        go_wp2_with (go_at_call 118; refine HC.out.mono ?_; rintro e w1 ⟨rfl, hb1⟩)
        go_roundw
        case rel => exact ⟨k + 1, by omega, by go_num, gany_snoc HT.out HNO.out HQ.out, hbel.trans (hb1.mono hsz)⟩
        case measure => simp [intOf]; omega
      | true =>
        have HQ : Hid (q (t, a) = true) := hq
        have HC : Hid (Calls Tryz.prog 118 #[.agg #[.int .i64 t, .int .i64 a]] wr fun r w' => r = .returned (.bool true) ∧ Below wr.heap.size wr w') := hq ▸ HP.out wr hbel _ HM.out
        clear hq
        go_wp2_with (go_at_call 118; refine HC.out.mono ?_; rintro e w1 ⟨rfl, hb1⟩)
        go_ret
        exact ⟨_, rfl, by rw [gany_hit HM.out HQ.out]; simp, hbel.trans (hb1.mono hsz)⟩
    · go_wp2
      go_ret
      refine ⟨_, rfl, ?_, hbel⟩
      have h0 := HNO.out
      rw [List.take_of_length_le (by omega)] at h0
      rw [h0]; simp
theorem contains_wrong (l : List Edge2) (v : Value) (q : Edge2 → Bool) (w : World) (hI : IsEdges w v l) (hlen : l.length ≤ 140737488351)
    (hp : ∀ W : World, Below w.heap.size w W → ∀ e ∈ l, Calls Tryz.prog 118 #[.agg #[.int .i64 e.1, .int .i64 e.2]] W fun r w' => r = .returned (.bool (q e)) ∧ Below W.heap.size W w') :
    Calls Tryz.prog 88 #[v, .func (.func 118) #[] #[]] w fun r w' => r = .returned (.bool (l.any q)) ∧ Below w.heap.size w w' := by
  have HC : Hid (Calls Tryz.prog 117 #[v, .func (.func 118) #[] #[]] w fun r w' => ∃ n : Int, r = .returned (.int .i64 n) ∧ (decide (0 ≤ n) = l.any q) ∧ Below w.heap.size w w') := index_wrong l v q w hI hlen hp
  clear hp hI
  go_enter Tryz.func88, Tryz.ntmps88
  go_wp2_with (go_at_call 117; refine HC.out.mono ?_; rintro e w1 ⟨n, rfl, hn, hb1⟩)
  all_goals go_ret
  all_goals exact ⟨ret_bool' (by simp_all), hb1⟩


theorem isDeal_any (t : Int) (w : World) : Calls Tryz.prog 119 #[.int .i64 t] w fun e w' => e = .returned (.bool (dealB t)) ∧ w' = w := by
  go_enter Tryz.func119, Tryz.ntmps119
  go_wp2
  all_goals go_ret
  all_goals exact ⟨ret_bool' (by simp_all [dealB] <;> omega), rfl⟩
theorem wrong_any (e : Edge2) (w : World) : Calls Tryz.prog 118 #[.agg #[.int .i64 e.1, .int .i64 e.2]] w fun r w' => r = .returned (.bool (wrongB e)) ∧ Below w.heap.size w w' := by
  obtain ⟨t, a⟩ := e
  have HW : Hid (wrongB (t, a) = (!dealB t || !dealB a)) := rfl
  have hb : Below w.heap.size w (w.alloc (.cells #[.int .i64 t, .int .i64 a] 139)) := (Below.refl _ w).alloc (Nat.le_refl _) _
  cases h1 : dealB t with
  | false =>
    go_enter Tryz.func118, Tryz.ntmps118
    go_wp2_with (go_at_call 119; refine (isDeal_any _ _).mono ?_; rintro e w' ⟨rfl, rfl⟩; rw [h1])
    go_ret
    exact ⟨ret_bool' (by rw [HW.out, h1]; rfl), hb⟩
  | true =>
    go_enter Tryz.func118, Tryz.ntmps118
    go_wp2_with fail
    refine (isDeal_any _ _).mono ?_
    rintro e w' ⟨rfl, hw⟩
    rw [hw, h1]; clear hw
    go_wp2_with fail
    refine (isDeal_any _ _).mono ?_
    rintro e w' ⟨rfl, hw⟩
    rw [hw]; clear hw
    go_wp2
    go_ret
    exact ⟨ret_bool' (by rw [HW.out, h1]; rfl), hb⟩
/-- An error value of a number. -/
def errG (n : Int) : Value := if n = 0 then .nilIface else .iface 61 (.int .i64 n)
set_option maxHeartbeats 2000000 in
theorem gcheck_any (l : List Edge2) (v : Value) (w : World) (hI : IsEdges w v l) :
    Calls Tryz.prog 89 #[v] w fun e w' => e = .returned (errG (gchk l)) ∧ Below w.heap.size w w' := by
  have HI : Hid (IsEdges w v l) := hI
  obtain ⟨ad, b, off, cap, rfl, -, -, -, -⟩ := hI
  by_cases hl : 60 < l.length
  · have HG : Hid (gchk l = 4) := by show gchk l = 4; unfold gchk; rw [if_pos hl]
    have hl' : (60 : Int) < (l.length : Int) := by omega
    go_enter Tryz.func89, Tryz.ntmps89
    go_wp2_with fail
    go_ret
    exact ⟨by rw [HG.out]; rfl, Below.refl _ _⟩
  · have HC : Hid (Calls Tryz.prog 88 #[.slice ad l.length cap, .func (.func 118) #[] #[]] w fun r w' => r = .returned (.bool (l.any wrongB)) ∧ Below w.heap.size w w') := contains_wrong l _ wrongB w HI.out (by omega) fun W _ e _ => wrong_any e W
    have hl' : ¬ (60 : Int) < (l.length : Int) := by omega
    have HG : Hid (gchk l = if l.any wrongB = true then 1 else 0) := by show gchk l = _; unfold gchk; rw [if_neg hl]
    clear hl
    obtain ⟨x, hx⟩ : ∃ x, l.any wrongB = x := ⟨_, rfl⟩
    have HX : Hid (l.any wrongB = x) := hx
    clear hx
    go_enter Tryz.func89, Tryz.ntmps89
    go_wp2_with fail
    refine HC.out.mono ?_
    rintro e w1 ⟨rfl, hb1⟩
    rw [HX.out]
    cases x with
    | false =>
      go_wp2_with fail
      go_ret
      exact ⟨by rw [HG.out, HX.out]; rfl, hb1⟩
    | true =>
      go_wp2_with fail
      go_ret
      exact ⟨by rw [HG.out, HX.out]; rfl, hb1⟩
end Go.Proofs.YtccjognnehoodahGreat

namespace Go.Proofs.YtccjognnehoodahGreat
open Go.RowKit

/-- A number in a block of its own. -/
def NumAt (w : World) (p : Nat) (t : Int) : Prop := w.cell? ⟨p, 0, none⟩ = some (.int .i64 t) ∧ w.frozen? ⟨p, 0, none⟩ = false
theorem NumAt.lt {w : World} {p : Nat} {t : Int} (h : NumAt w p t) : p < w.heap.size := by
  have := World.block_lt_of_cell? w _ h.1
  simpa using this
theorem NumAt.below {w w1 : World} {p B : Nat} {t : Int} (h : NumAt w p t) (hb : Below B w w1) (hB : p < B) : NumAt w1 p t := by
  unfold NumAt
  rw [hb.cell (p := ⟨p, 0, none⟩) hB, hb.frozen (p := ⟨p, 0, none⟩) hB]; exact h
theorem num_new (w : World) (x : Int) (t : Nat) (h : x = t) : NumAt (w.alloc (.cells #[.int .i64 x] 3)) w.heap.size t := by
  subst h
  simp [NumAt]
/-- The number that a pointer leads to. -/
def boxN (v : Value) (w : World) : Nat := match v with
  | .pointer (some a) => (match w.cell? a with
    | some (.int _ i) => i.toNat
    | _ => 0)
  | _ => 0
theorem box_at {a : Addr} {w : World} {t : Nat} (h : w.cell? a = some (.int .i64 t)) : boxN (.pointer (some a)) w = t := by simp [boxN, h]
theorem box_less {a c : Addr} {w w1 : World} {t : Nat} (h : w.cell? a = some (.int .i64 t)) (h1 : w1.cell? c = some (.int .i64 ((t + 1 : Nat) : Int))) (ht : t < 7) : 7 - boxN (.pointer (some c)) w1 < 7 - boxN (.pointer (some a)) w := by
  rw [box_at h, box_at h1]; omega
theorem anyTo_snoc {s : Set7} {k : Nat} (h : (List.range k).any s = false) (h1 : s k = false) : (List.range (k + 1)).any s = false := by
  rw [List.range_succ, List.any_append, h]; simp [h1]
theorem anyTo_hit {s : Set7} {k n : Nat} (hk : k < n) (h : s k = true) : (List.range n).any s = true := List.any_eq_true.2 ⟨k, List.mem_range.2 hk, h⟩

set_option maxHeartbeats 2000000 in
theorem index_bools (s : Set7) (b cap : Nat) (w : World) (h : BoolsAt w b 7 s) :
    Calls Tryz.prog 120 #[.slice (some ⟨b, 0, none⟩) 7 cap, .bool true] w fun e w' => ∃ n : Int, e = .returned (.int .i64 n) ∧ decide (0 ≤ n) = anyS s ∧ Below w.heap.size w w' := by
  have HB : Hid (BoolsAt w b 7 s) := h
  have hbl := h.lt (by omega)
  clear h
  go_enter Tryz.func120, Tryz.ntmps120
  go_wp2
  go_loopw [8] (fun v8 wr => ∃ k : Nat, k ≤ 7 ∧ v8 = .int .i64 k ∧ (List.range k).any s = false ∧ Below w.heap.size w wr) (fun v8 _ => 7 - (intOf v8).toNat)
  case atStart => exact ⟨0, by omega, rfl, rfl, Below.refl _ _⟩
  case round =>
    obtain ⟨k, hk, rfl, hno, hbel⟩ := hrel
    have HNO : Hid ((List.range k).any s = false) := hno
    clear hno
    by_cases hlt : k < 7
    · have c0 := ((HB.out.below hbel hbl) k hlt).1
      have hk7 : (k : Int) < 7 := by omega
      cases hq : s k with
      | false =>
        rw [hq] at c0
        have HQ : Hid (s k = false) := hq
        clear hq
        go_wp2
        go_roundw
        case rel => exact ⟨k + 1, by omega, by go_num, anyTo_snoc HNO.out HQ.out, hbel⟩
        case measure => simp [intOf]; omega
      | true =>
        rw [hq] at c0
        have HQ : Hid (anyS s = true) := anyTo_hit hlt hq
        clear hq
        go_wp2
        go_ret
        exact ⟨_, rfl, by rw [HQ.out]; simp, hbel⟩
    · have HQ : Hid (anyS s = false) := by
        have h0 := HNO.out
        rw [show k = 7 by omega] at h0
        exact h0
      have hk7 : ¬ (k : Int) < 7 := by omega
      go_wp2
      go_ret
      exact ⟨_, rfl, by rw [HQ.out]; rfl, hbel⟩
theorem contains_bools (s : Set7) (b cap : Nat) (w : World) (h : BoolsAt w b 7 s) :
    Calls Tryz.prog 91 #[.slice (some ⟨b, 0, none⟩) 7 cap, .bool true] w fun e w' => e = .returned (.bool (anyS s)) ∧ Below w.heap.size w w' := by
  have HC := index_bools s b cap w h
  clear h
  go_enter Tryz.func91, Tryz.ntmps91
  go_wp2_with (go_at_call 120; refine HC.mono ?_; rintro e w1 ⟨n, rfl, hn, hb1⟩)
  all_goals go_ret
  all_goals exact ⟨ret_bool' (by simp_all), hb1⟩

set_option maxHeartbeats 2000000 in
theorem next1_any (e : Edge2) (t : Nat) (s : Set7) (p q : Nat) (w : World) (hp : NumAt w p t) (hq : BoolsAt w q 7 s) (he : 1 ≤ e.1 ∧ e.1 ≤ 6) :
    Calls Tryz.prog 121 #[.agg #[.int .i64 e.1, .int .i64 e.2], .pointer (some ⟨p, 0, none⟩), .pointer (some ⟨q, 0, none⟩)] w fun r w' => r = .returned (.bool (holdB s t e)) ∧ Below w.heap.size w w' := by
  obtain ⟨x, y⟩ := e
  obtain ⟨x, rfl⟩ : ∃ n : Nat, x = n := ⟨x.toNat, by simp only at he; omega⟩
  simp only at he
  have HH : Hid (holdB s t ((x : Int), y) = (y == (t : Int) && s x)) := by show holdB s t ((x : Int), y) = _; simp [holdB]
  have hb : Below w.heap.size w (w.alloc (.cells #[.int .i64 x, .int .i64 y] 139)) := (Below.refl _ w).alloc (Nat.le_refl _) _
  have c0 := hp.1
  have hpl := hp.lt
  have c1 := (hq x (by omega)).1
  have hql := hq.lt (by omega)
  have hx7 : (x : Int) < 7 := by omega
  clear hp hq
  cases hy : (y == (t : Int)) with
  | false =>
    go_enter Tryz.func121, Tryz.ntmps121
    go_wp2
    go_ret
    exact ⟨ret_bool' (by rw [HH.out, hy]; rfl), hb⟩
  | true =>
    go_enter Tryz.func121, Tryz.ntmps121
    go_wp2
    go_ret
    exact ⟨ret_bool' (by rw [HH.out, hy]; rfl), hb⟩

set_option maxHeartbeats 4000000 in
theorem next_any (l : List Edge2) (v : Value) (s : Set7) (w : World) (hI : IsEdges w v l) (hd : ∀ e ∈ l, (1 ≤ e.1 ∧ e.1 ≤ 6) ∧ (1 ≤ e.2 ∧ e.2 ≤ 6)) (hl : l.length ≤ 60) :
    Calls Tryz.prog 92 #[v, .agg #[.bool (s 0), .bool (s 1), .bool (s 2), .bool (s 3), .bool (s 4), .bool (s 5), .bool (s 6)]] w fun e w' => e = .returned (.int .i64 (nextN l s)) ∧ Below w.heap.size w w' := by
  have HI : Hid (∀ W, Below w.heap.size w W → IsEdges W v l) := fun W hW => hI.below hW (Nat.le_refl _)
  have HV : Hid (∃ ad n c, v = .slice ad n c) := by obtain ⟨ad, b, off, cap, rfl, _⟩ := hI; exact ⟨_, _, _, rfl⟩
  obtain ⟨ad, vn, vc, rfl⟩ := HV.out
  have HD : Hid (∀ e ∈ l, (1 ≤ e.1 ∧ e.1 ≤ 6) ∧ (1 ≤ e.2 ∧ e.2 ≤ 6)) := hd
  clear hI hd HV
  go_enter Tryz.func92, Tryz.ntmps92
  go_wp2
  go_loopw [5] (fun v5 wr => ∃ t p : Nat, 1 ≤ t ∧ t ≤ 7 ∧ v5 = .pointer (some ⟨p, 0, none⟩) ∧ NumAt wr p t ∧ w.heap.size < p ∧ BoolsAt wr w.heap.size 7 s ∧ Below w.heap.size w wr ∧ (∀ j, 1 ≤ j → j < t → freeB l s j = false)) (fun v5 wr => 7 - boxN v5 wr)
  case atStart =>
    have hA : Below w.heap.size w (w.alloc (.cells #[.bool (s 0), .bool (s 1), .bool (s 2), .bool (s 3), .bool (s 4), .bool (s 5), .bool (s 6)] 143)) := (Below.refl _ w).alloc (Nat.le_refl _) _
    exact ⟨1, w.heap.size + 1, by omega, by omega, rfl, by simp [NumAt], by omega, (bools7_new w s _).alloc _, hA.alloc (by simp) _, fun j h1 h2 => absurd h1 (by omega)⟩
  case round =>
    obtain ⟨t, p, ht1, ht7, rfl, hn, hpl, hs, hbel, hno⟩ := hrel
    have HNO : Hid (∀ j, 1 ≤ j → j < t → freeB l s j = false) := hno
    have HS : Hid (BoolsAt wr w.heap.size 7 s) := hs
    have HN : Hid (NumAt wr p t) := hn
    have hpr := hn.lt
    obtain ⟨n0, n1⟩ := hn
    have hsz := hbel.size
    clear hno hs
    by_cases hlt : t < 7
    · have ht6 : (t : Int) ≤ 6 := by omega
      have hti : (t : Int) < 7 := by omega
      have c0 := (HS.out t hlt).1
      cases hq : s t with
      | false =>
        have HF : Hid (freeB l s t = false) := by show freeB l s t = false; unfold freeB; rw [hq]; rfl
        rw [hq] at c0
        clear hq
        go_wp2
        go_roundw
        case rel => exact ⟨t + 1, wr.heap.size, by omega, by omega, rfl, num_new _ _ _ (by omega), by omega, HS.out.alloc _, hbel.alloc hsz _, fun j h1 h2 => by
          rcases Nat.lt_or_ge j t with h | h
          · exact HNO.out j h1 h
          · rw [show j = t by omega]; exact HF.out⟩
        case measure => exact box_less n0 (num_new _ _ _ rfl).1 (by omega)
      | true =>
        rw [hq] at c0
        have HC : Hid (Calls Tryz.prog 88 #[.slice ad vn vc, .func (.func 121) #[] #[.pointer (some ⟨p, 0, none⟩), .pointer (some ⟨w.heap.size, 0, none⟩)]] wr fun r w' => r = .returned (.bool (l.any (holdB s t))) ∧ Below wr.heap.size wr w') := contains_next l _ (holdB s t) _ _ wr (HI.out _ hbel) (by omega) fun W hW e he => next1_any e t s p w.heap.size W (HN.out.below hW hpr) (HS.out.below hW (by omega)) (HD.out e he).1
        have HE : Hid (freeB l s t = !l.any (holdB s t)) := by show freeB l s t = _; unfold freeB; rw [hq]; rfl
        clear hq
        go_wp2_with fail
        refine HC.out.mono ?_
        rintro e w1 ⟨rfl, hb1⟩
        have m0 := (HN.out.below hb1 hpr).1
        have hs1 := hb1.size
        have hB1 := hbel.trans (hb1.mono hsz)
        cases ha : l.any (holdB s t) with
        | false =>
          have HR : Hid (nextN l s = t) := next_hit ht1 (by omega) (by rw [HE.out, ha]; rfl) HNO.out
          go_wp2
          go_ret
          exact ⟨by rw [HR.out]; rfl, hB1⟩
        | true =>
          have HF : Hid (freeB l s t = false) := by show freeB l s t = false; rw [HE.out, ha]; rfl
          clear ha
          have hp1 : p < w1.heap.size := by omega
          go_wp2
          go_roundw
          case rel => exact ⟨t + 1, w1.heap.size, by omega, by omega, rfl, num_new _ _ _ (by omega), by omega, (HS.out.below hb1 (by omega)).alloc _, hB1.alloc hB1.size _, fun j h1 h2 => by
            rcases Nat.lt_or_ge j t with h | h
            · exact HNO.out j h1 h
            · rw [show j = t by omega]; exact HF.out⟩
          case measure => exact box_less n0 (num_new _ _ _ rfl).1 (by omega)
    · have ht6 : ¬ (t : Int) ≤ 6 := by omega
      have HR : Hid (nextN l s = 0) := next_none fun j h1 h2 => HNO.out j h1 (by omega)
      go_wp2
      go_ret
      exact ⟨by rw [HR.out]; rfl, hbel⟩
end Go.Proofs.YtccjognnehoodahGreat

namespace Go.Proofs.YtccjognnehoodahGreat
open Go.RowKit

theorem gcheck_ok (l : List Edge2) (v : Value) (w : World) (hI : IsEdges w v l) (hc : gchk l = 0) :
    Calls Tryz.prog 89 #[v] w fun e w' => e = .returned .nilIface ∧ Below w.heap.size w w' :=
  (gcheck_any l v w hI).mono fun _ _ ⟨he, hb⟩ => ⟨by rw [he, hc]; rfl, hb⟩
theorem gcheck_bad (l : List Edge2) (v : Value) (w : World) (hI : IsEdges w v l) (hc : gchk l ≠ 0) :
    Calls Tryz.prog 89 #[v] w fun e w' => e = .returned (.iface 61 (.int .i64 (gchk l))) ∧ Below w.heap.size w w' :=
  (gcheck_any l v w hI).mono fun _ _ ⟨he, hb⟩ => ⟨by rw [he]; unfold errG; rw [if_neg hc], hb⟩
theorem order_bad (l : List Edge2) (v : Value) (w : World) (hI : IsEdges w v l) (hc : gchk l ≠ 0) :
    Calls Tryz.prog 44 #[v] w fun e w' => e = .returned (.tuple #[.slice none 0 0, .iface 61 (.int .i64 (gchk l))]) ∧ Below w.heap.size w w' := by
  go_enter Tryz.func44, Tryz.ntmps44
  go_wp2_with (go_at_call 89; refine (gcheck_bad l _ _ hI hc).mono ?_; rintro e w1 ⟨rfl, hb1⟩)
  go_ret2
  exact ⟨rfl, hb1⟩
/-- The length of a slice value. -/
def sliceN : Value → Nat
  | .slice _ n _ => n
  | _ => 0
theorem own_len {w : World} {base e s n : Nat} {v : Value} {xs : List Value} (h : w.ownsRow base e s v n xs) : sliceN v = n := by
  obtain ⟨_, ⟨hv, hd⟩ | ⟨g, cap, cur, hv, _⟩⟩ := h
  · rw [hv]; show 0 = n; omega
  · rw [hv]; rfl

set_option maxHeartbeats 8000000 in
theorem order_own (l : List Edge2) (v : Value) (w : World) (hI : IsEdges w v l) (hc : gchk l = 0) :
    Calls Tryz.prog 44 #[v] w fun e w' => ((∃ o v', orderL l = some o ∧ e = .returned (.tuple #[v', .nilIface]) ∧ w'.ownsRow w.heap.size 3 1 v' o.length (o.map (Value.int .i64)) ∧ o.length ≤ 7) ∨ (orderL l = none ∧ e = .returned (.tuple #[.slice none 0 0, .iface 61 (.int .i64 8)]))) ∧ Below w.heap.size w w' := by
  have HI : Hid (∀ W, Below w.heap.size w W → IsEdges W v l) := fun W hW => hI.below hW (Nat.le_refl _)
  have hl := gchk_len hc
  have HD : Hid (∀ e ∈ l, (1 ≤ e.1 ∧ e.1 ≤ 6) ∧ (1 ≤ e.2 ∧ e.2 ≤ 6)) := gchk_deal hc
  have HC : Hid (gchk l = 0) := hc
  obtain ⟨i0, hi, hz0, hs0, hy0⟩ := info_parts infoInt
  have HT : Hid (Tryz.prog.info? 3 = some i0 ∧ i0.zero = some (.int .i64 0) ∧ i0.size = 1 ∧ i0.bytes = 8) := ⟨hi, hz0, hs0, hy0⟩
  clear hi hz0 hs0 hy0 hI hc
  go_enter Tryz.func44, Tryz.ntmps44
  go_wp2_with fail
  refine (gcheck_ok l _ _ (HI.out _ (Below.refl _ _)) HC.out).mono ?_
  rintro e w1 ⟨rfl, hb1⟩
  go_wp2_with fail
  refine (named_any l _ _ (HI.out _ hb1) HD.out hl).mono ?_
  rintro e w2 ⟨rfl, hb2⟩
  have hb02 := hb1.trans (hb2.mono hb1.size)
  have HN2 : Hid (w.heap.size ≤ w2.heap.size) := hb02.size
  go_wp2_with fail
  go_loopw [6] (fun v6 wr => ∃ (n : Nat) (s : Set7) (out : List Int), cntS s ≤ n ∧ orderL l = orderGo l n s out ∧ out.length + cntS s ≤ 7 ∧ wr.ownsRow (w2.heap.size + 1) 3 1 v6 out.length (out.map (Value.int .i64)) ∧ BoolsAt wr w2.heap.size 7 s ∧ Below w.heap.size w wr) (fun v6 _ => 8 - sliceN v6)
  case atStart => exact ⟨7, namedS l, [], cnt_le _, rfl, by have := cnt_le (namedS l); simpa using this, World.ownsRow_nil _ _ _ _, bools7_new w2 (namedS l) _, hb02.alloc hb02.size _⟩
  case round =>
    clear hb1 hb2 hb02
    obtain ⟨n, s, out, hn, ho, hlen, hown, hs, hbel⟩ := hrel
    have HN : Hid (cntS s ≤ n ∧ orderL l = orderGo l n s out ∧ out.length + cntS s ≤ 7) := ⟨hn, ho, hlen⟩
    have hol : out.length ≤ 7 := by omega
    have HOWN : Hid (wr.ownsRow (w2.heap.size + 1) 3 1 u6 out.length (out.map (Value.int .i64))) := hown
    have HS : Hid (BoolsAt wr w2.heap.size 7 s) := hs
    have hB := hs.lt (by omega)
    have hsl := own_len hown
    have HSL : Hid (sliceN u6 = out.length) := hsl
    clear hn ho hlen hown hs hsl
    go_wp2_with fail
    refine (contains_bools s w2.heap.size 7 _ HS.out).mono ?_
    rintro e w3 ⟨rfl, hb3⟩
    have hb03 := hbel.trans (hb3.mono hbel.size)
    have HOWN3 : Hid (w3.ownsRow (w2.heap.size + 1) 3 1 u6 out.length (out.map (Value.int .i64))) := own_below HOWN.out hb3 (Nat.le_refl _)
    have HS3 : Hid (BoolsAt w3 w2.heap.size 7 s) := HS.out.below hb3 hB
    have hB3 := HS3.out.lt (by omega)
    clear HOWN HS hB hb3 hbel
    cases hany : anyS s with
    | false =>
      have HR : Hid (orderL l = some out) := by show orderL l = some out; rw [HN.out.2.1, orderGo_end hany]
      clear hany
      go_wp2
      go_ret2
      exact ⟨.inl ⟨out, _, HR.out, rfl, HOWN3.out.mono (by have := HN2.out; omega), hol⟩, hb03⟩
    | true =>
      have HA : Hid (anyS s = true) := hany
      clear hany
      have hc3 : ∀ k, k < 7 → w3.cell? ⟨w2.heap.size, k, none⟩ = some (.bool (s k)) := fun k hk => (HS3.out k hk).1
      go_wp2_with fail
      refine (next_any l _ s _ (HI.out _ hb03) HD.out hl).mono ?_
      rintro e w4 ⟨rfl, hb4⟩
      have hb04 := hb03.trans (hb4.mono hb03.size)
      have HOWN4 : Hid (w4.ownsRow (w2.heap.size + 1) 3 1 u6 out.length (out.map (Value.int .i64))) := own_below HOWN3.out hb4 (Nat.le_refl _)
      have HS4 : Hid (BoolsAt w4 w2.heap.size 7 s) := HS3.out.below hb4 hB3
      have hB4 := HS4.out.lt (by omega)
      clear HOWN3 HS3 hc3 hb4 hb03 hB3
      by_cases h0 : nextN l s = 0
      · have HR : Hid (orderL l = none) := by show orderL l = none; rw [HN.out.2.1, orderGo_stop HN.out.1 HA.out h0]
        rw [h0]
        clear h0
        go_wp2
        go_ret2
        exact ⟨.inr ⟨HR.out, rfl⟩, hb04⟩
      · have hnx := next_cases l s
        obtain ⟨t, ht⟩ : ∃ t, nextN l s = t := ⟨_, rfl⟩
        have HR : Hid (orderL l = orderGo l (n - 1) (setS s t false) (out ++ [(t : Int)])) := by show orderL l = _; rw [HN.out.2.1, orderGo_on HN.out.1 HA.out h0, ht]
        rw [ht] at hnx h0 ⊢
        have ht6 : 1 ≤ t ∧ t ≤ 6 ∧ s t = true := by
          rcases hnx with ⟨h, _⟩ | ⟨h1, h2, h3, _⟩
          · exact absurd h h0
          · exact ⟨h1, h2, by unfold freeB at h3; cases hst : s t with | true => rfl | false => rw [hst] at h3; cases h3⟩
        obtain ⟨ht1, ht6, hst⟩ := ht6
        have HC2 : Hid (cntS (setS s t false) + 1 = cntS s) := cnt_set (by omega) hst
        obtain ⟨c0, z0⟩ := HS4.out t (by omega)
        have ht0 : ((t : Int) == 0) = false := by simpa using h0
        have ht7 : (t : Int) < 7 := by omega
        have hsz4 := hb04.size
        clear hnx ht h0 hst
        go_wp2_with (at_builtin; refine wpList_append_own _ rfl (.tmp 25) (.tmp 27) 28 rfl (w2.heap.size + 1) 3 i0 (.int .i64 0) 1 8 Tryz.underlying28 HT.out.1 HT.out.2.1 HT.out.2.2.1 HT.out.2.2.2 rfl (by decide) u6 out.length (out.map (Value.int .i64)) rfl ((ownsRow_setCell_below HOWN4.out (by simp) _).alloc _) ⟨w4.heap.size, 0, none⟩ 1 1 [.int .i64 t] rfl rfl (by have := cell_one_new (w4.setCell ⟨w2.heap.size, t, none⟩ (.bool false)) (.int .i64 t) 3; simpa using this) (by simp [Value.oneCell']) (by unfold maxLen; omega) (by omega) (by simp; omega) ?_; intro v' w5 hown5 hgr5 hnil5)
        have hBn : u6.ownBlock ≠ some w2.heap.size := fun e => by have := (HOWN4.out.lt _ e).1; omega
        have hb5 : Below w.heap.size w w5 := ((hb04.setCell HN2.out _).alloc (by simpa using hsz4) _).grown hgr5 (by simp; omega) (fun m hm => by have := (HOWN4.out.lt m hm).1; have := HN2.out; omega)
        have hs5 : BoolsAt w5 w2.heap.size 7 (setS s t false) := ((HS4.out.set false (by omega)).alloc _).grown hgr5 (by simp; omega) hBn
        have hl5 := own_len hown5
        refine ⟨⟨n - 1, setS s t false, out ++ [(t : Int)], ?_, HR.out, ?_, ?_, hs5, hb5⟩, ?_⟩
        · have := HC2.out; have := HN.out.1; omega
        · have := HC2.out; have := HN.out.2.2; simp; omega
        · simpa using hown5
        · rw [hl5, HSL.out]; omega
theorem order_any (l : List Edge2) (v : Value) (w : World) (hI : IsEdges w v l) (hc : gchk l = 0) :
    Calls Tryz.prog 44 #[v] w fun e w' => ((∃ o v', orderL l = some o ∧ e = .returned (.tuple #[v', .nilIface]) ∧ IsInts w' v' o ∧ o.length ≤ 7) ∨ (orderL l = none ∧ e = .returned (.tuple #[.slice none 0 0, .iface 61 (.int .i64 8)]))) ∧ Below w.heap.size w w' :=
  (order_own l v w hI hc).mono fun _ _ ⟨h, hb⟩ => ⟨h.imp (fun ⟨o, v', h1, h2, h3, h4⟩ => ⟨o, v', h1, h2, isInts_own h3 rfl, h4⟩) id, hb⟩
end Go.Proofs.YtccjognnehoodahGreat

namespace Go.Proofs.YtccjognnehoodahGreat
open Go.RowKit

set_option maxHeartbeats 2000000 in
theorem ord_bad (l : List Op3) (v : Value) (w : World) (h : IsOps w v l) (hc : (chk l).2 ≠ 0) :
    Calls Tryz.prog 17 #[v] w fun e w' => e = .returned (.tuple #[.slice none 0 0, .iface 61 (.int .i64 (chk l).2)]) ∧ Below w.heap.size w w' := by
  go_enter Tryz.func17, Tryz.ntmps17
  go_wp2_with (go_at_call 23; refine (ddeals_bad l _ _ h hc).mono ?_; rintro e w1 ⟨rfl, hb1⟩)
  go_ret2
  exact ⟨rfl, hb1⟩
set_option maxHeartbeats 4000000 in
set_option maxRecDepth 100000 in
theorem ord_any (l : List Op3) (v : Value) (w : World) (h : IsOps w v l) (hc : (chk l).2 = 0) :
    Calls Tryz.prog 17 #[v] w fun e w' => ((∃ o v', serOrd (doneL l) = some o ∧ e = .returned (.tuple #[v', .nilIface]) ∧ IsInts w' v' o) ∨ (serOrd (doneL l) = none ∧ e = .returned (.tuple #[.slice none 0 0, .iface 61 (.int .i64 8)]))) ∧ Below w.heap.size w w' := by
  have hdd := ddeals_ok l v w h hc
  have hed : ∀ W, Below w.heap.size w W → Calls Tryz.prog 43 #[v] W fun e w' => ∃ v', e = .returned (.tuple #[v', .nilIface]) ∧ IsEdges w' v' (edgesTo (doneL l) 36) ∧ Below W.heap.size W w' := fun W hW => edges_ok l v W (h.below hW (Nat.le_refl _)) hc
  obtain ⟨d, hd⟩ : ∃ d, doneL l = d := ⟨_, rfl⟩
  rw [hd] at hdd hed ⊢
  have HD : Hid (Calls Tryz.prog 23 #[v] w fun e w' => ∃ u v', e = .returned (.tuple #[u, v', .nilIface]) ∧ IsOps w' u d ∧ w'.ownsRow w.heap.size 3 1 v' (dealsL d).length ((dealsL d).map (Value.int .i64)) ∧ Below w.heap.size w w') := hdd
  have HE : Hid (∀ W, Below w.heap.size w W → Calls Tryz.prog 43 #[v] W fun e w' => ∃ v', e = .returned (.tuple #[v', .nilIface]) ∧ IsEdges w' v' (edgesTo d 36) ∧ Below W.heap.size W w') := hed
  have HDL : Hid ((dealsL d).length ≤ 6) := dealsTo_len d 6
  clear hd hdd hed h hc
  go_enter Tryz.func17, Tryz.ntmps17
  go_wp2_with fail
  refine HD.out.mono ?_
  rintro e w1 ⟨u1, v1, rfl, hI1, hown1, hb1⟩
  have HO1 : Hid (w1.ownsRow w.heap.size 3 1 v1 (dealsL d).length ((dealsL d).map (Value.int .i64))) := hown1
  clear hI1 hown1
  go_wp2_with fail
  refine (HE.out w1 hb1).mono ?_
  rintro e w2 ⟨v2, rfl, hE2, hb2⟩
  have hb02 := hb1.trans (hb2.mono hb1.size)
  have HE2 : Hid (IsEdges w2 v2 (edgesTo d 36)) := hE2
  clear hE2
  go_wp2_with fail
  refine (order_own (edgesTo d 36) _ _ HE2.out (edges_gchk d 36)).mono ?_
  rintro e w3 ⟨hor, hb3⟩
  have hb03 := hb02.trans (hb3.mono hb02.size)
  rcases hor with ⟨o, v3, ho, rfl, hown3, hol⟩ | ⟨ho, rfl⟩
  · have HQ : Hid (serOrd d = some (weaveL o ((dealsL d).filter fun x => !inB o x))) := by show serOrd d = _; unfold serOrd; rw [ho]; rfl
    have HO3 : Hid (w3.ownsRow w2.heap.size 3 1 v3 o.length (o.map (Value.int .i64))) := hown3
    have HO13 : Hid (w3.ownsRow w.heap.size 3 1 v1 (dealsL d).length ((dealsL d).map (Value.int .i64))) := own_past (own_past HO1.out hb2) hb3
    have HG : Hid (∀ g, v1.ownBlock = some g → w.heap.size ≤ g ∧ g < w2.heap.size) := fun g hg => by
      have h1 := HO1.out.lt g hg
      have h2 := hb2.size
      omega
    have hsz3 := hb3.size
    have HB3 : Hid (Below w.heap.size w w3) := hb03
    obtain ⟨ad3, cap3, hv3⟩ : ∃ ad cap, v3 = .slice ad o.length cap := by
      obtain ⟨_, ⟨h1, h2⟩ | ⟨g, c, cur, h1, _⟩⟩ := hown3
      · exact ⟨none, 0, by rw [h1, h2]⟩
      · exact ⟨_, c, h1⟩
    obtain ⟨n3, hn3⟩ : ∃ n3, o.length = n3 := ⟨_, rfl⟩
    rw [hn3] at hv3 HO3 hol
    have HN3 : Hid (o.length = n3) := hn3
    subst hv3
    clear hown3 ho hb1 hb2 hb3 hb02 hb03 hn3
    go_wp2_with fail
    have HW : Hid (∃ W : World, W = w3.alloc (.cells #[.slice ad3 n3 cap3] 28)) := ⟨_, rfl⟩
    obtain ⟨W, hW⟩ := HW.out
    clear HW
    rw [← hW]
    have HB : Hid (∀ W', W.drew.grownBy W' v1.ownBlock → W'.cell? ⟨w3.heap.size, 0, none⟩ = some (.slice ad3 n3 cap3) ∧ IsInts W' (.slice ad3 n3 cap3) o) := fun W' hg => by
      refine ⟨hg.cell (show W.drew.cell? ⟨w3.heap.size, 0, none⟩ = some (.slice ad3 n3 cap3) by rw [hW]; simp) fun e => ?_, ?_⟩
      · have := HG.out _ e.symm; simp at this; omega
      · refine isInts_own (World.ownsRow.kept (w := W.drew) (by rw [hW]; exact (HO3.out.alloc _).drew) hg ?_) HN3.out
        cases hv : (Value.slice ad3 n3 cap3).ownBlock with
        | none => exact .inl rfl
        | some k =>
          refine .inr fun e => ?_
          have h1 := HG.out k e.symm
          have h2 := HO3.out.lt k hv
          omega
    have HOW : Hid (W.drew.ownsRow w.heap.size 3 1 v1 (dealsL d).length ((dealsL d).map (Value.int .i64))) := by rw [hW]; exact (HO13.out.alloc _).drew
    have HBW : Hid (Below w.heap.size w W.drew) := by rw [hW]; exact (HB3.out.alloc HB3.out.size _).drew
    have hcell : W.cell? ⟨w3.heap.size, 0, none⟩ = some (.slice ad3 n3 cap3) := by rw [hW]; simp
    clear hW HO3 HO13
    go_region_with (first | (go_at_call 48; refine (delete_own (dealsL d) o v1 (.slice ad3 n3 cap3) w3.heap.size w.heap.size _ W.drew rfl (by have := HDL.out; omega) (by have := HN3.out; omega) HOW.out HB.out).mono ?_; rintro e w' ⟨v', rfl, hrow', hgr'⟩; have hcell' := (HB.out w' hgr').1) | (go_at_call 47; refine (weave_any o _ _ _ _ (HB.out w' hgr').2 hrow' (by have := HN3.out; omega) (by have h1 := List.length_filter_le (fun x => !inB o x) (dealsL d); have := HDL.out; omega)).mono ?_; rintro e w'' ⟨v'', rfl, hI'', hb''⟩))
    all_goals
      go_wp2
      go_ret2
      have hbb : Below w.heap.size w w' := HBW.out.grown hgr' HBW.out.size (fun m hm => (HG.out m hm).1)
      exact ⟨.inl ⟨_, _, HQ.out, rfl, hI''⟩, hbb.trans (hb''.mono hbb.size)⟩
  · have HQ : Hid (serOrd d = none) := by show serOrd d = none; unfold serOrd; rw [ho]; rfl
    clear ho
    go_wp2_with fail
    go_ret2
    exact ⟨.inr ⟨HQ.out, rfl⟩, hb03.alloc hb03.size _⟩
end Go.Proofs.YtccjognnehoodahGreat
