/-
  PROVED HERE: plain facts, with no word of the program: a table of locks as two lists (those that are held, those that wait), what asking, freeing and 'for whom' make of them; of those that are held no two are at odds, and who waits waits for some.
  Conditions: none.
  (Of these, what the claim wants: the rest was left out.)
  PROVED HERE: how a list of edges lies in memory, as a slice value that came in or that the program made itself.
  Conditions: none.
-/
import Derived.Test.YtmjjiehnjghndaaGreatMgab
import Derived.Test.YtmjjiehnjghndaaGreatProg
import Derived.WalkKit
import Derived.WalkSpells
import Derived.Handy
namespace Go.Proofs.YtmjjiehnjghndaaGreat

/-- Are two locks (deal, item, mode) at odds? -/
def lodd (a b : Op3) : Bool := a.1 != b.1 && (a.2.1 == b.2.1 && (a.2.2 == 2 || b.2.2 == 2))
def isLock (x : Op3) : Bool := decide (1 ≤ x.1 ∧ x.1 ≤ 6) && (decide (1 ≤ x.2.1 ∧ x.2.1 ≤ 6) && (x.2.2 == 1 || x.2.2 == 2))
def clearL (l : List Op3) (x : Op3) : Bool := l.all fun y => !lodd y x
def waitsB (l : List Op3) (t : Int) : Bool := l.any fun y => y.1 == t
def hasL (l : List Op3) (x : Op3) : Bool := l.any fun y => y.1 == x.1 && (y.2.1 == x.2.1 && decide (x.2.2 ≤ y.2.2))
/-- Of one deal, on one item. -/
def likeL (y x : Op3) : Bool := y.1 == x.1 && y.2.1 == x.2.1
def holdL : List Op3 → Op3 → List Op3
  | [], x => [x]
  | y :: r, x => if likeL y x = true then x :: r else y :: holdL r x
def withoutL (l : List Op3) (t : Int) : List Op3 := l.filter fun y => y.1 != t
abbrev Tab2 := List Op3 × List Op3
def askT (s : Tab2) (x : Op3) : (Bool × Int) × Tab2 :=
  if isLock x = false then ((false, 1), s) else if waitsB s.2 x.1 = true then ((false, 7), s) else if hasL s.1 x = true then ((true, 0), s)
  else if (clearL s.1 x && clearL s.2 x) = true then ((true, 0), (holdL s.1 x, s.2)) else ((false, 0), (s.1, s.2 ++ [x]))
/-- One that waits is looked at when a deal has been freed. -/
def grant (s : Tab2 × List Op3) (x : Op3) : Tab2 × List Op3 :=
  if (clearL s.1.1 x && clearL s.1.2 x) = true then ((holdL s.1.1 x, s.1.2), s.2 ++ [x]) else ((s.1.1, s.1.2 ++ [x]), s.2)
def grants (s : Tab2 × List Op3) (l : List Op3) : Tab2 × List Op3 := l.foldl grant s
def freeT (s : Tab2) (t : Int) : Tab2 × List Op3 := grants ((withoutL s.1 t, []), []) (withoutL s.2 t)
def putsO (o : List Int) (l : List Op3) : List Int := l.foldl (fun o y => putL o y.1) o
def oddsL (l : List Op3) (x : Op3) : List Op3 := l.filter fun y => lodd y x
/-- Those that wait ahead of a deal. -/
def aheadL (l : List Op3) (t : Int) : List Op3 := l.takeWhile fun y => y.1 != t
def forT (s : Tab2) (x : Op3) : List Int := putsO (putsO [] (oddsL s.1 x)) (oddsL (aheadL s.2 x.1) x)

theorem lodd_symm (a b : Op3) : lodd a b = lodd b a := by
  unfold lodd
  rw [show (a.1 != b.1) = (b.1 != a.1) by simp [bne, Bool.beq_comm], show (a.2.1 == b.2.1) = (b.2.1 == a.2.1) by exact Bool.beq_comm, Bool.or_comm]
theorem clearL_iff {l : List Op3} {x : Op3} : clearL l x = true ↔ ∀ y ∈ l, lodd y x = false := by simp [clearL]
theorem clearL_not {l : List Op3} {x : Op3} (h : clearL l x = false) : ∃ y ∈ l, lodd y x = true := by
  simpa [clearL] using h
theorem mem_holdL {l : List Op3} {x z : Op3} (h : z ∈ holdL l x) : z = x ∨ z ∈ l := by
  induction l with
  | nil => simp [holdL] at h; exact .inl h
  | cons y r ih =>
    unfold holdL at h
    split at h
    · rcases List.mem_cons.1 h with h | h
      · exact .inl h
      · exact .inr (List.mem_cons_of_mem _ h)
    · rcases List.mem_cons.1 h with h | h
      · exact .inr (h ▸ List.mem_cons_self)
      · rcases ih h with h | h
        · exact .inl h
        · exact .inr (List.mem_cons_of_mem _ h)
theorem holdL_mem (l : List Op3) (x : Op3) : x ∈ holdL l x := by
  induction l with
  | nil => simp [holdL]
  | cons y r ih =>
    unfold holdL
    split
    · exact List.mem_cons_self
    · exact List.mem_cons_of_mem _ ih
theorem holdL_keep {l : List Op3} {x z : Op3} (h : z ∈ l) (hne : likeL z x = false) : z ∈ holdL l x := by
  induction l with
  | nil => cases h
  | cons y r ih =>
    unfold holdL
    rcases List.mem_cons.1 h with h | h
    · subst h; rw [if_neg (by rw [hne]; decide)]; exact List.mem_cons_self
    · split
      · exact List.mem_cons_of_mem _ h
      · exact List.mem_cons_of_mem _ (ih h)
theorem holdL_len (l : List Op3) (x : Op3) : (holdL l x).length ≤ l.length + 1 := by
  induction l with
  | nil => simp [holdL]
  | cons y r ih =>
    unfold holdL
    split
    · simp
    · simp; omega
theorem likeL_iff {y x : Op3} : likeL y x = true ↔ y.1 = x.1 ∧ y.2.1 = x.2.1 := by simp [likeL]
theorem likeL_symm {y x : Op3} (h : likeL y x = true) : likeL x y = true := by
  rw [likeL_iff] at h ⊢
  exact ⟨h.1.symm, h.2.symm⟩
/-- Two that may both be held. -/
def Peace (a b : Op3) : Prop := lodd a b = false ∧ likeL a b = false
theorem Peace.symm {a b : Op3} (h : Peace a b) : Peace b a := by
  refine ⟨by rw [lodd_symm]; exact h.1, ?_⟩
  cases hh : likeL b a with
  | false => rfl
  | true => exact absurd (likeL_symm hh) (by rw [h.2]; decide)
theorem holdL_peace {l : List Op3} {x : Op3} (h : l.Pairwise Peace) (hc : ∀ y ∈ l, lodd y x = false) : (holdL l x).Pairwise Peace := by
  induction l with
  | nil => simp [holdL]
  | cons y r ih =>
    rw [List.pairwise_cons] at h
    unfold holdL
    split
    · rename_i hy
      refine List.pairwise_cons.2 ⟨fun z hz => Peace.symm ⟨hc z (List.mem_cons_of_mem _ hz), ?_⟩, h.2⟩
      cases hh : likeL z x with
      | false => rfl
      | true =>
        have h1 := likeL_iff.1 hh
        have h2 := likeL_iff.1 hy
        have h3 := (h.1 z hz).2
        rw [show likeL y z = true by rw [likeL_iff]; exact ⟨h2.1.trans h1.1.symm, h2.2.trans h1.2.symm⟩] at h3
        cases h3
    · rename_i hy
      refine List.pairwise_cons.2 ⟨fun z hz => ?_, ih h.2 fun y hy => hc y (List.mem_cons_of_mem _ hy)⟩
      rcases mem_holdL hz with rfl | hz
      · exact ⟨hc y List.mem_cons_self, by simpa using hy⟩
      · exact h.1 z hz
/-- What stands in one's way still stands in it when another one is held. -/
theorem holdL_bar {l : List Op3} {x z y : Op3} (hy : y ∈ l) (ho : lodd y z = true) (hm : ∀ u ∈ l, likeL u x = true → u.2.2 ≤ x.2.2) (hx : x.2.2 ≤ 2) : ∃ u ∈ holdL l x, lodd u z = true := by
  cases hh : likeL y x with
  | false => exact ⟨y, holdL_keep hy hh, ho⟩
  | true =>
    refine ⟨x, holdL_mem l x, ?_⟩
    obtain ⟨h1, h2⟩ := likeL_iff.1 hh
    have h3 := hm y hy hh
    unfold lodd at ho ⊢
    simp only [Bool.and_eq_true, bne_iff_ne, ne_eq, beq_iff_eq, Bool.or_eq_true] at ho ⊢
    refine ⟨by rw [← h1]; exact ho.1, by rw [← h2]; exact ho.2.1, ?_⟩
    rcases ho.2.2 with h | h
    · exact .inl (by omega)
    · exact .inr h
/-- What is always so of a table. -/
structure TabOk (s : Tab2) : Prop where
  held : s.1.Pairwise Peace
  deals : s.2.Pairwise fun a b => a.1 ≠ b.1
  bars : ∀ k x, s.2[k]? = some x → (∃ y ∈ s.1, lodd y x = true) ∨ ∃ y ∈ s.2.take k, lodd y x = true
  more : ∀ x ∈ s.2, ∀ y ∈ s.1, likeL y x = true → y.2.2 < x.2.2
  locks : (∀ x ∈ s.1, isLock x = true) ∧ ∀ x ∈ s.2, isLock x = true
theorem tab_nil : TabOk ([], []) := ⟨List.Pairwise.nil, List.Pairwise.nil, fun k x h => by simp at h, fun x h => (by cases h), fun x h => (by cases h), fun x h => (by cases h)⟩
theorem isLock_mode {x : Op3} (h : isLock x = true) : 1 ≤ x.2.2 ∧ x.2.2 ≤ 2 := by
  simp [isLock] at h
  rcases h.2.2 with e | e <;> rw [e] <;> decide
theorem hasL_not {l : List Op3} {x : Op3} (h : hasL l x = false) : ∀ y ∈ l, likeL y x = true → y.2.2 < x.2.2 := by
  intro y hy hl
  obtain ⟨h1, h2⟩ := likeL_iff.1 hl
  simp [hasL] at h
  have := h y.1 y.2.1 y.2.2 hy h1 h2
  omega
theorem waitsB_not {l : List Op3} {t : Int} (h : waitsB l t = false) : ∀ y ∈ l, y.1 ≠ t := by
  intro y hy e
  simp [waitsB] at h
  exact h y.1 y.2.1 y.2.2 hy e
theorem ask_ok {s : Tab2} (h : TabOk s) (x : Op3) : TabOk (askT s x).2 := by
  unfold askT
  split
  · exact h
  · rename_i hx
    have hx' : isLock x = true := by simpa using hx
    split
    · exact h
    · rename_i hw
      have hw' : waitsB s.2 x.1 = false := by simpa using hw
      have hwn := waitsB_not hw'
      split
      · exact h
      · rename_i hh
        have hm := hasL_not (show hasL s.1 x = false by simpa using hh)
        split
        · rename_i hc
          simp only [Bool.and_eq_true] at hc
          refine ⟨holdL_peace h.held (clearL_iff.1 hc.1), h.deals, fun k z hz => ?_, fun z hz y hy hl => ?_, fun z hz => ?_, h.locks.2⟩
          · rcases h.bars k z hz with ⟨y, hy, ho⟩ | hb
            · exact .inl (holdL_bar hy ho (fun u hu hl => Int.le_of_lt (hm u hu hl)) (isLock_mode hx').2)
            · exact .inr hb
          · rcases mem_holdL hy with rfl | hy
            · exact absurd (likeL_iff.1 hl).1.symm (hwn z hz)
            · exact h.more z hz y hy hl
          · rcases mem_holdL hz with rfl | hz
            · exact hx'
            · exact h.locks.1 z hz
        · rename_i hc
          refine ⟨h.held, ?_, fun k z hz => ?_, fun z hz y hy hl => ?_, h.locks.1, fun z hz => ?_⟩
          · refine List.pairwise_append.2 ⟨h.deals, List.pairwise_singleton _ _, fun a ha b hb => ?_⟩
            rw [List.mem_singleton.1 hb]
            exact hwn a ha
          · simp only at hz ⊢
            rcases Nat.lt_or_ge k s.2.length with hk | hk
            · rw [List.getElem?_append_left hk] at hz
              rw [List.take_append_of_le_length (Nat.le_of_lt hk)]
              exact h.bars k z hz
            · rw [List.getElem?_append_right hk] at hz
              have hk0 : k - s.2.length = 0 := by
                rcases Nat.eq_zero_or_pos (k - s.2.length) with h0 | h0
                · exact h0
                · rw [List.getElem?_eq_none (by simp; omega)] at hz; cases hz
              rw [hk0] at hz
              simp at hz
              subst hz
              have hkl : k = s.2.length := by omega
              subst hkl
              rw [List.take_left']
              · simp only [Bool.and_eq_true, not_and, Bool.not_eq_true] at hc
                cases hcc : clearL s.1 x with
                | false => exact .inl (clearL_not hcc)
                | true => exact .inr (clearL_not (hc hcc))
              · rfl
          · rcases List.mem_append.1 hz with hz | hz
            · exact h.more z hz y hy hl
            · rw [List.mem_singleton.1 hz] at hl ⊢
              exact hm y hy hl
          · rcases List.mem_append.1 hz with hz | hz
            · exact h.locks.2 z hz
            · rw [List.mem_singleton.1 hz]; exact hx'
/-- What is so while those that wait are gone over: those that have been looked at, and those that are still to come. -/
structure MidOk (s : Tab2) (rest : List Op3) : Prop where
  held : s.1.Pairwise Peace
  deals : (s.2 ++ rest).Pairwise fun a b => a.1 ≠ b.1
  bars : ∀ k x, s.2[k]? = some x → (∃ y ∈ s.1, lodd y x = true) ∨ ∃ y ∈ s.2.take k, lodd y x = true
  more : ∀ x ∈ s.2 ++ rest, ∀ y ∈ s.1, likeL y x = true → y.2.2 < x.2.2
  locks : (∀ x ∈ s.1, isLock x = true) ∧ ∀ x ∈ s.2 ++ rest, isLock x = true
theorem mid_step {s : Tab2} {x : Op3} {rest o : List Op3} (h : MidOk s (x :: rest)) : MidOk (grant (s, o) x).1 rest := by
  have hx : isLock x = true := h.locks.2 x (by simp)
  have hm := h.more x (by simp)
  have hd := List.pairwise_append.1 h.deals
  have hdx := List.pairwise_cons.1 hd.2.1
  unfold grant
  split
  · rename_i hc
    simp only [Bool.and_eq_true] at hc
    refine ⟨holdL_peace h.held (clearL_iff.1 hc.1), ?_, fun k z hz => ?_, fun z hz y hy hl => ?_, fun z hz => ?_, fun z hz => h.locks.2 z ?_⟩
    · exact List.pairwise_append.2 ⟨hd.1, hdx.2, fun a ha b hb => hd.2.2 a ha b (List.mem_cons_of_mem _ hb)⟩
    · rcases h.bars k z hz with ⟨y, hy, ho⟩ | hb
      · exact .inl (holdL_bar hy ho (fun u hu hl => Int.le_of_lt (hm u hu hl)) (isLock_mode hx).2)
      · exact .inr hb
    · rcases mem_holdL hy with rfl | hy
      · have he := (likeL_iff.1 hl).1
        rcases List.mem_append.1 hz with hz | hz
        · exact absurd he.symm (hd.2.2 z hz y (by simp))
        · exact absurd he (hdx.1 z hz)
      · exact h.more z (by rcases List.mem_append.1 hz with hz | hz <;> simp [hz]) y hy hl
    · rcases mem_holdL hz with rfl | hz
      · exact hx
      · exact h.locks.1 z hz
    · rcases List.mem_append.1 hz with hz | hz <;> simp [hz]
  · rename_i hc
    refine ⟨h.held, by simpa using h.deals, fun k z hz => ?_, fun z hz => h.more z (by simpa using hz), h.locks.1, fun z hz => h.locks.2 z (by simpa using hz)⟩
    simp only at hz ⊢
    rcases Nat.lt_or_ge k s.2.length with hk | hk
    · rw [List.getElem?_append_left hk] at hz
      rw [List.take_append_of_le_length (Nat.le_of_lt hk)]
      exact h.bars k z hz
    · rw [List.getElem?_append_right hk] at hz
      have hk0 : k - s.2.length = 0 := by
        rcases Nat.eq_zero_or_pos (k - s.2.length) with h0 | h0
        · exact h0
        · rw [List.getElem?_eq_none (by simp; omega)] at hz; cases hz
      rw [hk0] at hz
      simp at hz
      subst hz
      have hkl : k = s.2.length := by omega
      subst hkl
      rw [List.take_left']
      · simp only [Bool.and_eq_true, not_and, Bool.not_eq_true] at hc
        cases hcc : clearL s.1 x with
        | false => exact .inl (clearL_not hcc)
        | true => exact .inr (clearL_not (hc hcc))
      · rfl
theorem mid_all : ∀ (rest : List Op3) (s : Tab2) (o : List Op3), MidOk s rest → MidOk (grants (s, o) rest).1 [] := by
  intro rest
  induction rest with
  | nil => intro s o h; exact h
  | cons x r ih =>
    intro s o h
    unfold grants
    rw [List.foldl_cons]
    exact ih (grant (s, o) x).1 (grant (s, o) x).2 (mid_step h)
theorem free_ok {s : Tab2} (h : TabOk s) (t : Int) : TabOk (freeT s t).1 := by
  have h0 : MidOk (withoutL s.1 t, []) (withoutL s.2 t) := by
    refine ⟨h.held.filter _, by simpa [withoutL] using h.deals.filter _, fun k x hx => by simp at hx, fun x hx y hy => ?_, fun x hx => h.locks.1 x (List.mem_filter.1 hx).1, fun x hx => h.locks.2 x ?_⟩
    · exact h.more x (List.mem_filter.1 (by simpa using hx : x ∈ withoutL s.2 t)).1 y (List.mem_filter.1 hy).1
    · exact (List.mem_filter.1 (by simpa using hx : x ∈ withoutL s.2 t)).1
  have h1 : MidOk (freeT s t).1 [] := mid_all _ _ [] h0
  refine ⟨h1.held, by simpa using h1.deals, h1.bars, fun x hx => h1.more x (by simpa using hx), h1.locks.1, fun x hx => h1.locks.2 x (by simpa using hx)⟩
theorem grants_len (l : List Op3) : ∀ s : Tab2 × List Op3, (grants s l).1.1.length ≤ s.1.1.length + l.length ∧ (grants s l).1.2.length ≤ s.1.2.length + l.length ∧ (grants s l).2.length ≤ s.2.length + l.length := by
  induction l with
  | nil => intro s; simp [grants]
  | cons x r ih =>
    intro s
    have h := ih (grant s x)
    have h2 : (grant s x).1.1.length ≤ s.1.1.length + 1 ∧ (grant s x).1.2.length ≤ s.1.2.length + 1 ∧ (grant s x).2.length ≤ s.2.length + 1 := by
      unfold grant
      have := holdL_len s.1.1 x
      split
      · simp; omega
      · simp
    unfold grants at h ⊢
    rw [List.foldl_cons, List.length_cons]
    omega
/-- Both lists together grow by one at most when one is asked for, and do not grow when a deal is freed. -/
theorem ask_sum (s : Tab2) (x : Op3) : (askT s x).2.1.length + (askT s x).2.2.length ≤ s.1.length + s.2.length + 1 := by
  unfold askT
  have := holdL_len s.1 x
  split
  · simp
  · split
    · simp
    · split
      · simp
      · split
        · simp; omega
        · simp; omega
theorem grants_sum (l : List Op3) : ∀ s : Tab2 × List Op3, (grants s l).1.1.length + (grants s l).1.2.length ≤ s.1.1.length + s.1.2.length + l.length := by
  induction l with
  | nil => intro s; simp [grants]
  | cons x r ih =>
    intro s
    have h := ih (grant s x)
    have h2 : (grant s x).1.1.length + (grant s x).1.2.length ≤ s.1.1.length + s.1.2.length + 1 := by
      unfold grant
      have := holdL_len s.1.1 x
      split
      · simp; omega
      · simp; omega
    unfold grants at h ⊢
    rw [List.foldl_cons, List.length_cons]
    omega
theorem free_sum (s : Tab2) (t : Int) : (freeT s t).1.1.length + (freeT s t).1.2.length ≤ s.1.length + s.2.length := by
  have h := grants_sum (withoutL s.2 t) ((withoutL s.1 t, []), [])
  have h1 : (withoutL s.1 t).length ≤ s.1.length := List.length_filter_le _ _
  have h2 : (withoutL s.2 t).length ≤ s.2.length := List.length_filter_le _ _
  unfold freeT
  simp only [List.length_nil] at h
  omega
end Go.Proofs.YtmjjiehnjghndaaGreat

namespace Go.Proofs.YtmjjiehnjghndaaGreat
open Go.RowKit

/-- The cells of edges. -/
def flatE : List Edge2 → List Value
  | [] => []
  | o :: r => .int .i64 o.1 :: .int .i64 o.2 :: flatE r
theorem flatE_length (l : List Edge2) : (flatE l).length = l.length * 2 := by
  induction l with
  | nil => rfl
  | cons o r ih => simp [flatE, ih]; omega
theorem flatE_append (l m : List Edge2) : flatE (l ++ m) = flatE l ++ flatE m := by
  induction l with
  | nil => rfl
  | cons o r ih => simp [flatE, ih]
theorem flatE_one (l : List Edge2) : ∀ u ∈ flatE l, u.oneCell' = true := by
  induction l with
  | nil => intro u hu; cases hu
  | cons o r ih =>
    intro u hu
    simp only [flatE, List.mem_cons] at hu
    rcases hu with rfl | rfl | hu
    · rfl
    · rfl
    · exact ih u hu
theorem flatE_at (l : List Edge2) : ∀ i, i < l.length → (flatE l)[i * 2]? = some (.int .i64 (l.getD i (0, 0)).1) ∧ (flatE l)[i * 2 + 1]? = some (.int .i64 (l.getD i (0, 0)).2) := by
  induction l with
  | nil => intro i hi; cases hi
  | cons o r ih =>
    intro i hi
    cases i with
    | zero => exact ⟨rfl, rfl⟩
    | succ i =>
      have := ih i (by simpa using hi)
      rw [show (i + 1) * 2 = i * 2 + 2 by omega]
      simpa [flatE] using this
/-- The edges lie in memory from an address on, two numbers each. -/
def EdgesAt (w : World) (b off : Nat) (l : List Edge2) : Prop :=
  ∀ i, i < l.length → w.cell? ⟨b, off + i * 2, none⟩ = some (.int .i64 (l.getD i (0, 0)).1) ∧ w.cell? ⟨b, off + i * 2 + 1, none⟩ = some (.int .i64 (l.getD i (0, 0)).2)
theorem edgesAt_of {w : World} {b off : Nat} {l : List Edge2} (h : ∀ j u, (flatE l)[j]? = some u → w.cell? ⟨b, off + j, none⟩ = some u) : EdgesAt w b off l := by
  intro i hi
  obtain ⟨h0, h1⟩ := flatE_at l i hi
  exact ⟨h _ _ h0, by rw [Nat.add_assoc]; exact h _ _ h1⟩
theorem EdgesAt.flat {w : World} {b off : Nat} {l : List Edge2} (h : EdgesAt w b off l) : ∀ j u, (flatE l)[j]? = some u → w.cell? ⟨b, off + j, none⟩ = some u := by
  intro j u hj
  have hlt : j < l.length * 2 := by
    rw [← flatE_length]
    exact (List.getElem?_eq_some_iff.1 hj).1
  obtain ⟨c0, c1⟩ := h (j / 2) (by omega)
  obtain ⟨f0, f1⟩ := flatE_at l (j / 2) (by omega)
  rcases (show j = j / 2 * 2 ∨ j = j / 2 * 2 + 1 by omega) with e | e
  · rw [← e] at c0 f0; rw [f0] at hj; rw [c0, ← hj]
  · rw [Nat.add_assoc, ← e] at c1; rw [← e] at f1; rw [f1] at hj; rw [c1, ← hj]
theorem EdgesAt.below {w w1 : World} {b off B : Nat} {l : List Edge2} (h : EdgesAt w b off l) (hb : Below B w w1) (hB : b < B ∨ l = []) : EdgesAt w1 b off l := by
  intro i hi
  have hB' : b < B := by
    rcases hB with h | h
    · exact h
    · subst h; cases hi
  rw [hb.cell (p := ⟨b, off + i * 2, none⟩) hB', hb.cell (p := ⟨b, off + i * 2 + 1, none⟩) hB']
  exact h i hi

theorem infoEdge : (Tryz.prog.info? 80).map (fun i => (i.zero, i.size, i.bytes)) = some (some (.agg #[.int .i64 0, .int .i64 0]), 2, 16) := by kernel_rfl

/-- A slice value that holds a list of edges. -/
def IsEdges (w : World) (v : Value) (l : List Edge2) : Prop :=
  ∃ (ad : Option Addr) (b off cap : Nat), v = .slice ad l.length cap ∧ (0 < l.length → ad = some ⟨b, off, none⟩) ∧ (ad = none → l.length = 0 ∧ cap = 0) ∧ (b < w.heap.size ∨ l = []) ∧ EdgesAt w b off l
theorem IsEdges.below {w w1 : World} {B : Nat} {v : Value} {l : List Edge2} (h : IsEdges w v l) (hb : Below B w w1) (hB : w.heap.size ≤ B) : IsEdges w1 v l := by
  obtain ⟨ad, b, off, cap, hv, ha, hn, hbB, hops⟩ := h
  have hs := hb.size
  refine ⟨ad, b, off, cap, hv, ha, hn, ?_, hops.below hb ?_⟩
  · rcases hbB with h | h
    · exact .inl (by omega)
    · exact .inr h
  · rcases hbB with h | h
    · exact .inl (by omega)
    · exact .inr h
theorem isEdges_nil (w : World) : IsEdges w (.slice none 0 0) [] := ⟨none, 0, 0, 0, rfl, fun h => absurd h (by simp), fun _ => ⟨rfl, rfl⟩, .inr rfl, fun i hi => by simp at hi⟩
theorem isEdges_own {w : World} {base e n : Nat} {v : Value} {l : List Edge2} (h : w.ownsRow base e 2 v n (flatE l)) (hl : l.length = n) : IsEdges w v l := by
  have h' := h
  obtain ⟨_, ⟨hv, hd⟩ | ⟨g, cap, cur, hv, hb, hg, hn, hm, hsz, htk⟩⟩ := h'
  · have : l = [] := List.length_eq_zero_iff.1 (by omega)
    subst this
    rw [hv]
    exact isEdges_nil w
  · refine ⟨some ⟨g, 0, none⟩, g, 0, cap, by rw [hl]; exact hv, fun _ => rfl, fun h => (by simp at h), .inl (h.lt g (by rw [hv]; rfl)).2, edgesAt_of fun j u hj => ?_⟩
    have := h.cells (g := g) (by rw [hv]; rfl) j u hj
    rw [Addr.add_lit] at this
    exact this
/-- One edge just built lies there. -/
theorem one_edge (w : World) (t a : Int) : ∀ j u, (flatE [(t, a)])[j]? = some u → (w.alloc (.cells #[.int .i64 t, .int .i64 a] 80)).cell? ((⟨w.heap.size, 0, none⟩ : Addr).add j) = some u := by
  intro j u hj
  match j, hj with
  | 0, hj => simp [flatE] at hj; subst hj; simp [Addr.add]
  | 1, hj => simp [flatE] at hj; subst hj; simp [Addr.add]
  | k + 2, hj => simp [flatE] at hj
end Go.Proofs.YtmjjiehnjghndaaGreat
