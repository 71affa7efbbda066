/-
  PROVED HERE: plain facts on lists of ops, with no word of the program: which op of a history is the first that is wrong, and what becomes of that when one op is added.
  Conditions: none.
  PROVED HERE: history.isOp, history.ends and history.Check answer as the plain functions of the text Plain say, whatever the list of ops; old memory stays as it was.
  Conditions: none.
-/
import Derived.WalkKit
import Derived.Test.YtccjognnehoodafDoorProg
import Derived.WalkSpells
import Derived.Handy
import Derived.Deep.RegionWith
namespace Go.Proofs.YtccjognnehoodafDoor

/-- An op: its deal, what it does, its item. -/
abbrev Op3 := Int × Int × Int
def endsB (a : Int) : Bool := a == 3 || a == 4
def isOpB (o : Op3) : Bool := !(decide (o.1 < 1) || decide (6 < o.1) || decide (o.2.1 < 1) || decide (4 < o.2.1)) && (if endsB o.2.1 then o.2.2 == 0 else decide (1 ≤ o.2.2) && decide (o.2.2 ≤ 6))
/-- Has a deal ended among these ops? -/
def endedIn (l : List Op3) (t : Int) : Bool := l.any fun o => o.1 == t && endsB o.2.1
/-- The first that is wrong, and how, behind 'pre'. -/
def chkFrom : List Op3 → List Op3 → Nat × Int
  | _, [] => (0, 0)
  | pre, o :: r => if isOpB o = false then (pre.length, 1) else if endedIn pre o.1 = true then (pre.length, 6) else chkFrom (pre ++ [o]) r
def chk (l : List Op3) : Nat × Int := if 40 < l.length then (0, 4) else chkFrom [] l
/-- How a deal ends first among these ops, 0 if it does not. -/
def endOf : List Op3 → Int → Int
  | [], _ => 0
  | o :: r, t => if o.1 = t ∧ 3 ≤ o.2.1 then o.2.1 else endOf r t

theorem chkFrom_bad1 {a : Op3} (pre r : List Op3) (h : isOpB a = false) : chkFrom pre (a :: r) = (pre.length, 1) := by simp [chkFrom, h]
theorem chkFrom_bad2 {a : Op3} {pre : List Op3} (r : List Op3) (h : isOpB a = true) (h2 : endedIn pre a.1 = true) : chkFrom pre (a :: r) = (pre.length, 6) := by simp [chkFrom, h, h2]
theorem chkFrom_go {a : Op3} {pre : List Op3} (r : List Op3) (h : isOpB a = true) (h2 : endedIn pre a.1 = false) : chkFrom pre (a :: r) = chkFrom (pre ++ [a]) r := by simp [chkFrom, h, h2]
theorem chkFrom_app_ok (l m : List Op3) : ∀ pre, (chkFrom pre l).2 = 0 → chkFrom pre (l ++ m) = chkFrom (pre ++ l) m := by
  induction l with
  | nil => intro pre _; simp
  | cons a r ih =>
    intro pre h
    cases h1 : isOpB a with
    | false => rw [chkFrom_bad1 pre r h1] at h; simp at h
    | true =>
      cases h2 : endedIn pre a.1 with
      | true => rw [chkFrom_bad2 r h1 h2] at h; simp at h
      | false =>
        rw [chkFrom_go r h1 h2] at h
        rw [List.cons_append, chkFrom_go _ h1 h2, ih _ h, List.append_assoc]; rfl
theorem chkFrom_app_bad (l m : List Op3) : ∀ pre, (chkFrom pre l).2 ≠ 0 → chkFrom pre (l ++ m) = chkFrom pre l := by
  induction l with
  | nil => intro pre h; simp [chkFrom] at h
  | cons a r ih =>
    intro pre h
    cases h1 : isOpB a with
    | false => rw [List.cons_append, chkFrom_bad1 pre _ h1, chkFrom_bad1 pre r h1]
    | true =>
      cases h2 : endedIn pre a.1 with
      | true => rw [List.cons_append, chkFrom_bad2 _ h1 h2, chkFrom_bad2 r h1 h2]
      | false =>
        rw [chkFrom_go r h1 h2] at h ⊢
        rw [List.cons_append, chkFrom_go _ h1 h2, ih _ h]
theorem chkFrom_two (l : List Op3) : ∀ pre, (chkFrom pre l).2 = 0 ∨ (chkFrom pre l).2 = 1 ∨ (chkFrom pre l).2 = 6 := by
  induction l with
  | nil => intro pre; simp [chkFrom]
  | cons a r ih =>
    intro pre
    simp only [chkFrom]
    split
    · simp
    · split
      · simp
      · exact ih _
theorem chkFrom_zero (l : List Op3) : ∀ pre, (chkFrom pre l).2 = 0 → (chkFrom pre l).1 = 0 := by
  induction l with
  | nil => intro pre; simp [chkFrom]
  | cons a r ih =>
    intro pre
    simp only [chkFrom]
    split
    · simp
    · split
      · simp
      · exact ih _
theorem chkFrom_ops (l : List Op3) : ∀ pre, (chkFrom pre l).2 = 0 → ∀ o ∈ l, isOpB o = true := by
  induction l with
  | nil => intro pre _ o ho; cases ho
  | cons a r ih =>
    intro pre h o ho
    simp only [chkFrom] at h
    by_cases h1 : isOpB a = false
    · simp [h1] at h
    · rw [if_neg h1] at h
      by_cases h2 : endedIn pre a.1 = true
      · simp [h2] at h
      · rw [if_neg h2] at h
        rcases List.mem_cons.1 ho with rfl | hr
        · simpa using h1
        · exact ih _ h o hr
theorem isOp_ends {o : Op3} (h : isOpB o = true) : endsB o.2.1 = decide (3 ≤ o.2.1) := by
  simp [isOpB] at h
  obtain ⟨h, -⟩ := h
  simp only [endsB]
  by_cases h3 : o.2.1 = 3
  · simp [h3]
  · by_cases h4 : o.2.1 = 4
    · simp [h4]
    · have : ¬ 3 ≤ o.2.1 := by omega
      simp [h3, h4, this]
theorem endOf_ended (l : List Op3) (t : Int) (h : ∀ o ∈ l, isOpB o = true) : (endOf l t = 0) ↔ endedIn l t = false := by
  induction l with
  | nil => simp [endOf, endedIn]
  | cons a r ih =>
    have ha := isOp_ends (h a (List.mem_cons_self ..))
    have ih' := ih fun o ho => h o (List.mem_cons_of_mem _ ho)
    simp only [endOf, endedIn, List.any_cons, ha] at ih' ⊢
    by_cases hc : a.1 = t ∧ 3 ≤ a.2.1
    · rw [if_pos hc]; simp [hc.1, hc.2]; omega
    · rw [if_neg hc, ih']
      have : (a.1 == t && decide (3 ≤ a.2.1)) = false := by
        by_cases h1 : a.1 = t
        · have : ¬ 3 ≤ a.2.1 := fun h3 => hc ⟨h1, h3⟩
          simp [this]
        · simp [h1]
      simp [this]

theorem chk_short (l : List Op3) (h : l.length ≤ 40) : chk l = chkFrom [] l := by unfold chk; rw [if_neg (by omega)]
/-- What HistoryEnds asks, of lists. -/
theorem ends_bad (h : List Op3) (o : Op3) (hl : h.length ≤ 39) (hb : (chk h).2 ≠ 0 ∨ (chk [o]).2 ≠ 0) : (chk (h ++ [o])).2 ≠ 0 := by
  rw [chk_short h (by omega), chk_short [o] (by simp)] at hb
  rw [chk_short _ (by simp; omega)]
  by_cases h0 : (chkFrom [] h).2 = 0
  · rw [chkFrom_app_ok h [o] [] h0]
    have hb' : (chkFrom [] [o]).2 ≠ 0 := by
      rcases hb with hb | hb
      · exact absurd h0 hb
      · exact hb
    cases h1 : isOpB o with
    | false => rw [chkFrom_bad1 _ _ h1]; simp
    | true => rw [chkFrom_go _ h1 (by simp [endedIn])] at hb'; simp [chkFrom] at hb'
  · rw [chkFrom_app_bad h [o] [] h0]; exact h0
theorem ends_good (h : List Op3) (o : Op3) (hl : h.length ≤ 39) (hb : (chk h).2 = 0) (hc : (chk [o]).2 = 0) :
    (endOf h o.1 ≠ 0 → chk (h ++ [o]) = (h.length, 6)) ∧ (endOf h o.1 = 0 → chk (h ++ [o]) = (0, 0)) := by
  rw [chk_short h (by omega)] at hb
  rw [chk_short [o] (by simp)] at hc
  have h1 : isOpB o = true := by
    cases h1 : isOpB o with
    | false => rw [chkFrom_bad1 _ _ h1] at hc; simp at hc
    | true => rfl
  have he := endOf_ended h o.1 (chkFrom_ops h [] hb)
  rw [chk_short _ (by simp; omega), chkFrom_app_ok h [o] [] hb, List.nil_append]
  cases h2 : endedIn h o.1 with
  | true =>
    rw [chkFrom_bad2 _ h1 h2]
    exact ⟨fun _ => rfl, fun h0 => by rw [he.1 h0] at h2; cases h2⟩
  | false =>
    rw [chkFrom_go _ h1 h2]
    exact ⟨fun h0 => absurd (he.2 h2) h0, fun _ => rfl⟩
end Go.Proofs.YtccjognnehoodafDoor

namespace Go.Proofs.YtccjognnehoodafDoor
open Go.RowKit

/-- The ops lie in memory from an address on, three numbers each. -/
def OpsAt (w : World) (b off : Nat) (l : List Op3) : Prop :=
  ∀ i, i < l.length → w.cell? ⟨b, off + i * 3, none⟩ = some (.int .i64 (l.getD i (0, 0, 0)).1) ∧ w.cell? ⟨b, off + i * 3 + 1, none⟩ = some (.int .i64 (l.getD i (0, 0, 0)).2.1) ∧ w.cell? ⟨b, off + i * 3 + 2, none⟩ = some (.int .i64 (l.getD i (0, 0, 0)).2.2)

theorem ret_bool {x y : Bool} (h : x = y) : Ending.returned (.bool x) = .returned (.bool y) := by rw [h]

theorem ends_any (a : Int) (w : World) : Calls Tryd.prog 60 #[.int .i64 a] w fun e w' => e = .returned (.bool (endsB a)) ∧ w' = w := by
  go_enter Tryd.func60, Tryd.ntmps60
  go_wp2
  all_goals go_ret
  all_goals exact ⟨by simp_all [endsB], rfl⟩

set_option maxHeartbeats 1000000 in
theorem isOp_any (t a i : Int) (w : World) : Calls Tryd.prog 59 #[.agg #[.int .i64 t, .int .i64 a, .int .i64 i]] w fun e w' => e = .returned (.bool (isOpB (t, a, i))) ∧ w' = w.alloc (.cells #[.int .i64 t, .int .i64 a, .int .i64 i] 59) := by
  go_enter Tryd.func59, Tryd.ntmps59
  go_wp2_with (go_at_call 60; refine (ends_any _ _).mono ?_; rintro e w' ⟨rfl, rfl⟩)
  all_goals go_ret
  all_goals refine ⟨ret_bool ?_, rfl⟩
  all_goals (first | (simp_all [isOpB]; done) | (simp_all [isOpB]; omega))

/-- An error as the program makes it: nil, or an Errno. -/
def errV (n : Int) : Value := if n = 0 then .nilIface else .iface 75 (.int .i64 n)
theorem errV_zero : errV 0 = .nilIface := rfl
theorem errV_ne {n : Int} (h : n ≠ 0) : errV n = .iface 75 (.int .i64 n) := if_neg h
theorem ret_chk {x y : Int} {v u : Value} (h : x = y) (h2 : v = u) : Ending.returned (.tuple #[.int .i64 x, v]) = .returned (.tuple #[.int .i64 y, u]) := by rw [h, h2]

/-- The array of those that have ended. -/
def EndedAt (w : World) (B : Nat) (l : List Op3) : Prop := ∀ j, j < 7 → w.cell? ⟨B, j, none⟩ = some (.bool (endedIn l (j : Nat))) ∧ w.frozen? ⟨B, j, none⟩ = false
theorem EndedAt.lt {w : World} {B : Nat} {l : List Op3} (h : EndedAt w B l) : B < w.heap.size := by
  rcases Nat.lt_or_ge B w.heap.size with h0 | h0
  · exact h0
  · have := (h 0 (by omega)).1
    simp [World.cell?, Array.getElem?_eq_none h0] at this
theorem ended_start (l : List Op3) (w : World) : EndedAt (w.alloc (.cells #[.bool false, .bool false, .bool false, .bool false, .bool false, .bool false, .bool false] 57)) w.heap.size (List.take 0 l) := by
  intro j hj
  match j, hj with
  | 0, _ => exact ⟨by simp [endedIn], by simp⟩
  | 1, _ => exact ⟨by simp [endedIn], by simp⟩
  | 2, _ => exact ⟨by simp [endedIn], by simp⟩
  | 3, _ => exact ⟨by simp [endedIn], by simp⟩
  | 4, _ => exact ⟨by simp [endedIn], by simp⟩
  | 5, _ => exact ⟨by simp [endedIn], by simp⟩
  | 6, _ => exact ⟨by simp [endedIn], by simp⟩

theorem endedIn_snoc (l : List Op3) (o : Op3) (t : Int) : endedIn (l ++ [o]) t = (endedIn l t || (o.1 == t && endsB o.2.1)) := by simp [endedIn]
theorem EndedAt.step {w : World} {B : Nat} {l : List Op3} {t a i : Int} (h : EndedAt w B l) (h1 : 1 ≤ t) (h6 : t ≤ 6) (hen : endedIn l t = false) (o1 o2 : Obj) :
    EndedAt (((w.setCell ⟨B, t.toNat, none⟩ (.bool (endsB a))).alloc o1).alloc o2).drew B (l ++ [(t, a, i)]) := by
  have hlt := h.lt
  intro j hj
  have hz : (w.setCell ⟨B, t.toNat, none⟩ (.bool (endsB a))).heap.size = w.heap.size := by simp
  obtain ⟨hc, hf⟩ := h j hj
  obtain ⟨hct, _⟩ := h t.toNat (by omega)
  constructor
  · rw [World.cell?_drew, World.cell?_alloc_lt _ _ ⟨B, j, none⟩ (by simp; omega), World.cell?_alloc_lt _ _ ⟨B, j, none⟩ (by simp; omega), endedIn_snoc]
    by_cases hjt : j = t.toNat
    · subst hjt
      rw [World.cell?_setCell_same _ _ _ hct, show ((t.toNat : Nat) : Int) = t by omega, hen]; simp
    · rw [World.cell?_setCell_other _ _ _ _ (by intro he; injection he with _ he2 _; exact hjt he2.symm), hc]
      have : (t == (j : Int)) = false := by simp; omega
      simp [this]
  · rw [World.frozen?_drew, World.frozen?_alloc_old _ _ ⟨B, j, none⟩ (by simp; omega), World.frozen?_alloc_old _ _ ⟨B, j, none⟩ (by simp; omega)]
    simpa using hf
theorem isOp_tx {o : Op3} (h : isOpB o = true) : 1 ≤ o.1 ∧ o.1 ≤ 6 := by
  simp [isOpB] at h; omega
theorem chk_at1 {l : List Op3} {k : Nat} {o : Op3} (hk : k < l.length) (h : chkFrom (l.take k) (l.drop k) = chk l) (hd : l.drop k = o :: l.drop (k + 1)) (ho : isOpB o = false) : chk l = (k, 1) := by
  rw [← h, hd, chkFrom_bad1 _ _ ho, List.length_take, Nat.min_eq_left (by omega)]
theorem chk_at2 {l : List Op3} {k : Nat} {o : Op3} (hk : k < l.length) (h : chkFrom (l.take k) (l.drop k) = chk l) (hd : l.drop k = o :: l.drop (k + 1)) (ho : isOpB o = true) (he : endedIn (l.take k) o.1 = true) : chk l = (k, 6) := by
  rw [← h, hd, chkFrom_bad2 _ ho he, List.length_take, Nat.min_eq_left (by omega)]
theorem chk_step {l : List Op3} {k : Nat} {o : Op3} (h : chkFrom (l.take k) (l.drop k) = chk l) (hd : l.drop k = o :: l.drop (k + 1)) (ht : l.take (k + 1) = l.take k ++ [o]) (ho : isOpB o = true) (he : endedIn (l.take k) o.1 = false) : chkFrom (l.take (k + 1)) (l.drop (k + 1)) = chk l := by
  rw [← h, hd, chkFrom_go _ ho he, ht]
theorem chk_end {l : List Op3} {k : Nat} (hk : l.length ≤ k) (h : chkFrom (l.take k) (l.drop k) = chk l) : chk l = (0, 0) := by
  rw [← h, List.drop_of_length_le hk]; rfl

set_option maxHeartbeats 2000000 in
theorem check_any (l : List Op3) (ad : Option Addr) (b off cap : Nat) (w : World) (ha : 0 < l.length → ad = some ⟨b, off, none⟩) (hbB : b < w.heap.size ∨ l = []) (hops : OpsAt w b off l) :
    Calls Tryd.prog 44 #[.slice ad l.length cap] w fun e w' => e = .returned (.tuple #[.int .i64 (chk l).1, errV (chk l).2]) ∧ Below w.heap.size w w' := by
  by_cases h40 : 40 < l.length
  · have hc : chk l = (0, 4) := by unfold chk; rw [if_pos h40]
    have HC : Hid (chk l = (0, 4)) := hc
    clear hc hops ha hbB
    go_enter Tryd.func44, Tryd.ntmps44
    go_wp2
    go_ret2
    exact ⟨ret_chk (by rw [HC.out]; rfl) (by rw [HC.out]; rfl), Below.refl _ _⟩
  · have HC : Hid (chk l = chkFrom [] l) := chk_short l (by omega)
    go_enter Tryd.func44, Tryd.ntmps44
    go_wp2
    go_loopw [13] (fun v13 wr => ∃ k : Nat, k ≤ l.length ∧ v13 = .int .i64 k ∧ chkFrom (l.take k) (l.drop k) = chk l ∧ EndedAt wr w.heap.size (l.take k) ∧ Below w.heap.size w wr) (fun v13 _ => l.length - (intOf v13).toNat)
    case atStart => exact ⟨0, Nat.zero_le _, rfl, by rw [HC.out]; simp, ended_start l w, (Below.refl _ _).alloc (Nat.le_refl _) _⟩
    case round =>
      obtain ⟨k, hk, rfl, hck, hend, hbel⟩ := hrel
      have HK : Hid (chkFrom (l.take k) (l.drop k) = chk l) := hck
      clear hck
      by_cases hlt : k < l.length
      · have hsz : w.heap.size < wr.heap.size := hend.lt
        obtain rfl := ha (by omega)
        obtain ⟨c0, c1, c2⟩ := hops k hlt
        have hb1 : b < w.heap.size := by
          rcases hbB with h | h
          · exact h
          · subst h; simp at hlt
        rw [← hbel.cell (p := ⟨b, off + k * 3, none⟩) hb1] at c0
        rw [← hbel.cell (p := ⟨b, off + k * 3 + 1, none⟩) hb1] at c1
        rw [← hbel.cell (p := ⟨b, off + k * 3 + 2, none⟩) hb1] at c2
        obtain ⟨⟨t, a, i⟩, ho⟩ : ∃ o : Op3, l.getD k (0, 0, 0) = o := ⟨_, rfl⟩
        rw [ho] at c0 c1 c2
        have hdr : l.drop k = (t, a, i) :: l.drop (k + 1) := by
          rw [← ho]; simp [List.getD, List.getElem?_eq_getElem hlt]
        have HD : Hid (l.drop k = (t, a, i) :: l.drop (k + 1)) := hdr
        have HT : Hid (l.take (k + 1) = l.take k ++ [(t, a, i)]) := by
          show l.take (k + 1) = l.take k ++ [(t, a, i)]
          rw [List.take_succ_eq_append_getElem hlt, ← ho]; simp [List.getD, List.getElem?_eq_getElem hlt]
        clear ho hdr hops ha hbB
        simp only at c0 c1 c2
        cases hop : isOpB (t, a, i) with
        | false =>
          go_wp2_with (first | (go_at_call 59; refine (isOp_any _ _ _ _).mono ?_; rintro e w' ⟨rfl, rfl⟩))
          go_ret2
          have hres := chk_at1 hlt HK.out HD.out hop
          exact ⟨ret_chk (by rw [hres]) (by rw [hres]; rfl), (((hbel.alloc (by omega) _).alloc (by simp; omega) _))⟩
        | true =>
          have htb := isOp_tx hop
          obtain ⟨ht1, ht6⟩ := htb
          have hce := hend t.toNat (by omega)
          rw [show ((t.toNat : Nat) : Int) = t by omega] at hce
          obtain ⟨hc1, hc2⟩ := hce
          cases hen : endedIn (l.take k) t with
          | true =>
            rw [hen] at hc1
            go_wp2_with (first | (go_at_call 59; refine (isOp_any _ _ _ _).mono ?_; rintro e w' ⟨rfl, rfl⟩))
            go_ret2
            have hres := chk_at2 hlt HK.out HD.out hop hen
            exact ⟨ret_chk (by rw [hres]) (by rw [hres]; rfl), (((hbel.alloc (by omega) _).alloc (by simp; omega) _))⟩
          | false =>
            rw [hen] at hc1
            go_wp2_with (first | (go_at_call 59; refine (isOp_any _ _ _ _).mono ?_; rintro e w' ⟨rfl, rfl⟩))
            go_region_with (go_at_call 60; refine (ends_any _ _).mono ?_; rintro e w' ⟨rfl, rfl⟩)
            all_goals
              go_wp2
              go_roundw
              case rel => exact ⟨k + 1, by omega, by go_num, chk_step HK.out HD.out HT.out hop hen, by rw [HT.out]; exact hend.step ht1 ht6 hen _ _, ((((hbel.setCell (by simp) _).alloc (by simp; omega) _).alloc (by simp; omega) _)).drew⟩
              case measure => simp [intOf]; omega
      · go_wp2
        go_ret2
        have hres := chk_end (by omega) HK.out
        exact ⟨ret_chk (by rw [hres]; rfl) (by rw [hres]; rfl), hbel⟩
end Go.Proofs.YtccjognnehoodafDoor
