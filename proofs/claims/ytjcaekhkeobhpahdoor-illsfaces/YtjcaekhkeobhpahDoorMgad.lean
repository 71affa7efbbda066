/-
  PROVED HERE: plain facts, with no word of the program: a number put into a list that rises, once; whether a number is in a list.
  Conditions: none.
  PROVED HERE: plain facts on lists of ops, with no word of the program: which op of a history is the first that is wrong, and what becomes of that when one op is added.
  Conditions: none.
-/
import Derived.WalkKit
namespace Go.Proofs.YtjcaekhkeobhpahDoor

def putL : List Int → Int → List Int
  | [], n => [n]
  | x :: r, n => if x = n then x :: r else if n < x then n :: x :: r else x :: putL r n
theorem putL_len (l : List Int) (n : Int) : (putL l n).length ≤ l.length + 1 := by
  induction l with
  | nil => simp [putL]
  | cons x r ih =>
    unfold putL
    split
    · simp
    · split <;> simp <;> omega
/-- What is still to come. -/
def putR (done : Bool) (l : List Int) (n : Int) : List Int := if done then l else putL l n
/-- Is a number in a list? -/
def inB (l : List Int) (n : Int) : Bool := l.contains n
theorem inB_iff {l : List Int} {n : Int} : inB l n = true ↔ n ∈ l := by simp [inB]
theorem inB_not {l : List Int} {n : Int} : inB l n = false ↔ n ∉ l := by simp [inB]
end Go.Proofs.YtjcaekhkeobhpahDoor

namespace Go.Proofs.YtjcaekhkeobhpahDoor

/-- An op: its deal, what it does, its item. -/
abbrev Op3 := Int × Int × Int
def endsB (a : Int) : Bool := a == 3 || a == 4
def isOpB (o : Op3) : Bool := !(decide (o.1 < 1) || decide (6 < o.1) || decide (o.2.1 < 1) || decide (4 < o.2.1)) && (if endsB o.2.1 then o.2.2 == 0 else decide (1 ≤ o.2.2) && decide (o.2.2 ≤ 6))
/-- Has a deal ended among these ops? -/
def endedIn (l : List Op3) (t : Int) : Bool := l.any fun o => o.1 == t && endsB o.2.1
/-- The first that is wrong, and how, behind 'pre'. -/
def chkFrom : List Op3 → List Op3 → Nat × Int
  | _, [] => (0, 0)
  | pre, o :: r => if isOpB o = false then (pre.length, 1) else if endedIn pre o.1 = true then (pre.length, 6) else chkFrom (pre ++ [o]) r
def chk (l : List Op3) : Nat × Int := if 40 < l.length then (0, 4) else chkFrom [] l
/-- How a deal ends first among these ops, 0 if it does not. -/
def endOf : List Op3 → Int → Int
  | [], _ => 0
  | o :: r, t => if o.1 = t ∧ 3 ≤ o.2.1 then o.2.1 else endOf r t

theorem chkFrom_bad1 {a : Op3} (pre r : List Op3) (h : isOpB a = false) : chkFrom pre (a :: r) = (pre.length, 1) := by simp [chkFrom, h]
theorem chkFrom_bad2 {a : Op3} {pre : List Op3} (r : List Op3) (h : isOpB a = true) (h2 : endedIn pre a.1 = true) : chkFrom pre (a :: r) = (pre.length, 6) := by simp [chkFrom, h, h2]
theorem chkFrom_go {a : Op3} {pre : List Op3} (r : List Op3) (h : isOpB a = true) (h2 : endedIn pre a.1 = false) : chkFrom pre (a :: r) = chkFrom (pre ++ [a]) r := by simp [chkFrom, h, h2]
theorem chkFrom_app_ok (l m : List Op3) : ∀ pre, (chkFrom pre l).2 = 0 → chkFrom pre (l ++ m) = chkFrom (pre ++ l) m := by
  induction l with
  | nil => intro pre _; simp
  | cons a r ih =>
    intro pre h
    cases h1 : isOpB a with
    | false => rw [chkFrom_bad1 pre r h1] at h; simp at h
    | true =>
      cases h2 : endedIn pre a.1 with
      | true => rw [chkFrom_bad2 r h1 h2] at h; simp at h
      | false =>
        rw [chkFrom_go r h1 h2] at h
        rw [List.cons_append, chkFrom_go _ h1 h2, ih _ h, List.append_assoc]; rfl
theorem chkFrom_app_bad (l m : List Op3) : ∀ pre, (chkFrom pre l).2 ≠ 0 → chkFrom pre (l ++ m) = chkFrom pre l := by
  induction l with
  | nil => intro pre h; simp [chkFrom] at h
  | cons a r ih =>
    intro pre h
    cases h1 : isOpB a with
    | false => rw [List.cons_append, chkFrom_bad1 pre _ h1, chkFrom_bad1 pre r h1]
    | true =>
      cases h2 : endedIn pre a.1 with
      | true => rw [List.cons_append, chkFrom_bad2 _ h1 h2, chkFrom_bad2 r h1 h2]
      | false =>
        rw [chkFrom_go r h1 h2] at h ⊢
        rw [List.cons_append, chkFrom_go _ h1 h2, ih _ h]
theorem chkFrom_two (l : List Op3) : ∀ pre, (chkFrom pre l).2 = 0 ∨ (chkFrom pre l).2 = 1 ∨ (chkFrom pre l).2 = 6 := by
  induction l with
  | nil => intro pre; simp [chkFrom]
  | cons a r ih =>
    intro pre
    simp only [chkFrom]
    split
    · simp
    · split
      · simp
      · exact ih _
theorem chkFrom_zero (l : List Op3) : ∀ pre, (chkFrom pre l).2 = 0 → (chkFrom pre l).1 = 0 := by
  induction l with
  | nil => intro pre; simp [chkFrom]
  | cons a r ih =>
    intro pre
    simp only [chkFrom]
    split
    · simp
    · split
      · simp
      · exact ih _
theorem chkFrom_ops (l : List Op3) : ∀ pre, (chkFrom pre l).2 = 0 → ∀ o ∈ l, isOpB o = true := by
  induction l with
  | nil => intro pre _ o ho; cases ho
  | cons a r ih =>
    intro pre h o ho
    simp only [chkFrom] at h
    by_cases h1 : isOpB a = false
    · simp [h1] at h
    · rw [if_neg h1] at h
      by_cases h2 : endedIn pre a.1 = true
      · simp [h2] at h
      · rw [if_neg h2] at h
        rcases List.mem_cons.1 ho with rfl | hr
        · simpa using h1
        · exact ih _ h o hr
theorem isOp_ends {o : Op3} (h : isOpB o = true) : endsB o.2.1 = decide (3 ≤ o.2.1) := by
  simp [isOpB] at h
  obtain ⟨h, -⟩ := h
  simp only [endsB]
  by_cases h3 : o.2.1 = 3
  · simp [h3]
  · by_cases h4 : o.2.1 = 4
    · simp [h4]
    · have : ¬ 3 ≤ o.2.1 := by omega
      simp [h3, h4, this]
theorem endOf_ended (l : List Op3) (t : Int) (h : ∀ o ∈ l, isOpB o = true) : (endOf l t = 0) ↔ endedIn l t = false := by
  induction l with
  | nil => simp [endOf, endedIn]
  | cons a r ih =>
    have ha := isOp_ends (h a (List.mem_cons_self ..))
    have ih' := ih fun o ho => h o (List.mem_cons_of_mem _ ho)
    simp only [endOf, endedIn, List.any_cons, ha] at ih' ⊢
    by_cases hc : a.1 = t ∧ 3 ≤ a.2.1
    · rw [if_pos hc]; simp [hc.1, hc.2]; omega
    · rw [if_neg hc, ih']
      have : (a.1 == t && decide (3 ≤ a.2.1)) = false := by
        by_cases h1 : a.1 = t
        · have : ¬ 3 ≤ a.2.1 := fun h3 => hc ⟨h1, h3⟩
          simp [this]
        · simp [h1]
      simp [this]

theorem chk_short (l : List Op3) (h : l.length ≤ 40) : chk l = chkFrom [] l := by unfold chk; rw [if_neg (by omega)]
/-- What HistoryEnds asks, of lists. -/
theorem ends_bad (h : List Op3) (o : Op3) (hl : h.length ≤ 39) (hb : (chk h).2 ≠ 0 ∨ (chk [o]).2 ≠ 0) : (chk (h ++ [o])).2 ≠ 0 := by
  rw [chk_short h (by omega), chk_short [o] (by simp)] at hb
  rw [chk_short _ (by simp; omega)]
  by_cases h0 : (chkFrom [] h).2 = 0
  · rw [chkFrom_app_ok h [o] [] h0]
    have hb' : (chkFrom [] [o]).2 ≠ 0 := by
      rcases hb with hb | hb
      · exact absurd h0 hb
      · exact hb
    cases h1 : isOpB o with
    | false => rw [chkFrom_bad1 _ _ h1]; simp
    | true => rw [chkFrom_go _ h1 (by simp [endedIn])] at hb'; simp [chkFrom] at hb'
  · rw [chkFrom_app_bad h [o] [] h0]; exact h0
theorem ends_good (h : List Op3) (o : Op3) (hl : h.length ≤ 39) (hb : (chk h).2 = 0) (hc : (chk [o]).2 = 0) :
    (endOf h o.1 ≠ 0 → chk (h ++ [o]) = (h.length, 6)) ∧ (endOf h o.1 = 0 → chk (h ++ [o]) = (0, 0)) := by
  rw [chk_short h (by omega)] at hb
  rw [chk_short [o] (by simp)] at hc
  have h1 : isOpB o = true := by
    cases h1 : isOpB o with
    | false => rw [chkFrom_bad1 _ _ h1] at hc; simp at hc
    | true => rfl
  have he := endOf_ended h o.1 (chkFrom_ops h [] hb)
  rw [chk_short _ (by simp; omega), chkFrom_app_ok h [o] [] hb, List.nil_append]
  cases h2 : endedIn h o.1 with
  | true =>
    rw [chkFrom_bad2 _ h1 h2]
    exact ⟨fun _ => rfl, fun h0 => by rw [he.1 h0] at h2; cases h2⟩
  | false =>
    rw [chkFrom_go _ h1 h2]
    exact ⟨fun h0 => absurd (he.2 h2) h0, fun _ => rfl⟩
end Go.Proofs.YtjcaekhkeobhpahDoor
