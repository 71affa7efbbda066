/-
  PROVED HERE: plain facts, with no word of the program: chapter 19 as a list of lists: all orders of the ops of a history in which each deal's own stand as they stood, the least deal first; each has the same ops of each deal, and is right; there are no two alike; in one of them deals come one behind the other, and that one has an order.
  Conditions: none.
  (Of these, what the claim wants: the rest was left out.)
  PROVED HERE: nothing yet of package mix: what its Count, Good and Nth are asked to answer, for the laws that call them.
  Conditions: none.
-/
import Derived.Test.YtmjjiehnjghndaaGreatMgak
import Derived.Test.YtmjjiehnjghndaaGreatMgad
import Derived.Test.YtmjjiehnjghndaaGreatMgae
import Derived.Deep.QuietTactic
import Derived.BigQuiet
import Derived.WalkSmall
import Derived.Test.YtmjjiehnjghndaaGreatMgaf
namespace Go.Proofs.YtmjjiehnjghndaaGreat

/-- Rows of ops, of which one is another one. -/
def rowSet (rows : Nat → List Op3) (d : Nat) (r : List Op3) : Nat → List Op3 := fun e => if e = d then r else rows e
/-- All orders of so many ops. -/
def mixG : Nat → (Nat → List Op3) → List (List Op3)
  | 0, _ => [[]]
  | n + 1, rows => (List.range 6).flatMap fun i => match rows (i + 1) with
    | [] => []
    | o :: r => (mixG n (rowSet rows (i + 1) r)).map (o :: ·)
def rowsL (l : List Op3) : Nat → List Op3 := fun d => ofL l (d : Int)
def mixL (l : List Op3) : List (List Op3) := mixG l.length (rowsL l)
def totR (rows : Nat → List Op3) : Nat := ((List.range 6).map fun i => (rows (i + 1)).length).sum
theorem totR_six (rows : Nat → List Op3) : totR rows = (rows 1).length + (rows 2).length + (rows 3).length + (rows 4).length + (rows 5).length + (rows 6).length := by
  simp [totR, List.range_succ, List.range_zero]
  omega
theorem totR_set {rows : Nat → List Op3} {d : Nat} {o : Op3} {r : List Op3} (h1 : 1 ≤ d) (h6 : d ≤ 6) (h : rows d = o :: r) : totR rows = totR (rowSet rows d r) + 1 := by
  rw [totR_six, totR_six]
  have hl : (rows d).length = r.length + 1 := by rw [h]; rfl
  unfold rowSet
  rcases (show d = 1 ∨ d = 2 ∨ d = 3 ∨ d = 4 ∨ d = 5 ∨ d = 6 by omega) with e | e | e | e | e | e <;> subst e <;> simp <;> omega
/-- Rows of which each holds ops of its own deal alone. -/
def OwnR (rows : Nat → List Op3) : Prop := ∀ d, ∀ o ∈ rows d, o.1 = (d : Int)
theorem ownR_set {rows : Nat → List Op3} {d : Nat} {o : Op3} {r : List Op3} (h : OwnR rows) (hd : rows d = o :: r) : OwnR (rowSet rows d r) := fun e x hx => by
  unfold rowSet at hx
  split at hx
  · rename_i he
    subst he
    exact h e x (by rw [hd]; exact List.mem_cons_of_mem _ hx)
  · exact h e x hx
theorem of_consM (o : Op3) (l : List Op3) (t : Int) : ofL (o :: l) t = if o.1 = t then o :: ofL l t else ofL l t := by
  unfold ofL
  rw [List.filter_cons]
  by_cases h : o.1 = t <;> simp [h]
theorem mix_succ {n : Nat} {rows : Nat → List Op3} {x : List Op3} : x ∈ mixG (n + 1) rows ↔ ∃ d o r y, 1 ≤ d ∧ d ≤ 6 ∧ rows d = o :: r ∧ y ∈ mixG n (rowSet rows d r) ∧ x = o :: y := by
  rw [mixG, List.mem_flatMap]
  constructor
  · rintro ⟨i, hi, h⟩
    have h6 := List.mem_range.1 hi
    cases hr : rows (i + 1) with
    | nil => rw [hr] at h; cases h
    | cons o r =>
      rw [hr] at h
      obtain ⟨y, hy, rfl⟩ := List.mem_map.1 h
      exact ⟨i + 1, o, r, y, by omega, by omega, hr, hy, rfl⟩
  · rintro ⟨d, o, r, y, h1, h6, hr, hy, rfl⟩
    refine ⟨d - 1, List.mem_range.2 (by omega), ?_⟩
    rw [show d - 1 + 1 = d by omega, hr]
    exact List.mem_map.2 ⟨y, hy, rfl⟩
/-- Which orders there are: those with the same ops of each deal. -/
theorem mem_mixG : ∀ (n : Nat) (rows : Nat → List Op3), OwnR rows → totR rows = n → ∀ x, x ∈ mixG n rows ↔ (∀ o ∈ x, 1 ≤ o.1 ∧ o.1 ≤ 6) ∧ ∀ d : Nat, 1 ≤ d → d ≤ 6 → ofL x (d : Int) = rows d := by
  intro n
  induction n with
  | zero =>
    intro rows _ ht x
    rw [totR_six] at ht
    have hz : ∀ d, 1 ≤ d → d ≤ 6 → rows d = [] := fun d h1 h6 => List.length_eq_zero_iff.1 (by
      rcases (show d = 1 ∨ d = 2 ∨ d = 3 ∨ d = 4 ∨ d = 5 ∨ d = 6 by omega) with e | e | e | e | e | e <;> subst e <;> omega)
    rw [mixG, List.mem_singleton]
    constructor
    · rintro rfl
      exact ⟨fun o ho => (by cases ho), fun d h1 h6 => (hz d h1 h6).symm⟩
    · rintro ⟨h1, h2⟩
      cases x with
      | nil => rfl
      | cons o y =>
        have ho := h1 o (List.mem_cons_self ..)
        have h3 := h2 o.1.toNat (by omega) (by omega)
        rw [hz _ (by omega) (by omega), of_consM, if_pos (by omega)] at h3
        cases h3
  | succ n ih =>
    intro rows hown ht x
    rw [mix_succ]
    constructor
    · rintro ⟨d, o, r, y, h1, h6, hr, hy, rfl⟩
      have hs := ownR_set hown hr
      have hts : totR (rowSet rows d r) = n := by have := totR_set h1 h6 hr; omega
      obtain ⟨k1, k2⟩ := (ih _ hs hts y).1 hy
      have ho : o.1 = (d : Int) := hown d o (by rw [hr]; exact List.mem_cons_self ..)
      refine ⟨fun z hz => ?_, fun e he1 he6 => ?_⟩
      · rcases List.mem_cons.1 hz with rfl | hz
        · omega
        · exact k1 z hz
      · rw [of_consM, k2 e he1 he6]
        unfold rowSet
        by_cases he : e = d
        · rw [if_pos he, he, hr, if_pos ho]
        · rw [if_neg he, if_neg (by omega)]
    · rintro ⟨k1, k2⟩
      cases x with
      | nil =>
        rw [totR_six] at ht
        have hz : ∀ d : Nat, 1 ≤ d → d ≤ 6 → (rows d).length = 0 := fun d h1 h6 => by rw [← k2 d h1 h6]; rfl
        have := hz 1; have := hz 2; have := hz 3; have := hz 4; have := hz 5; have := hz 6
        omega
      | cons o y =>
        have ho := k1 o (List.mem_cons_self ..)
        have hd : ((o.1.toNat : Nat) : Int) = o.1 := by omega
        have hr : rows o.1.toNat = o :: ofL y o.1 := by rw [← k2 _ (by omega) (by omega), of_consM, hd, if_pos rfl]
        refine ⟨o.1.toNat, o, ofL y o.1, y, by omega, by omega, hr, ?_, rfl⟩
        have hts : totR (rowSet rows o.1.toNat (ofL y o.1)) = n := by have := totR_set (show 1 ≤ o.1.toNat by omega) (by omega) hr; omega
        refine (ih _ (ownR_set hown hr) hts y).2 ⟨fun z hz => k1 z (List.mem_cons_of_mem _ hz), fun e he1 he6 => ?_⟩
        unfold rowSet
        by_cases he : e = o.1.toNat
        · rw [if_pos he, he, hd]
        · rw [if_neg he, ← k2 e he1 he6, of_consM, if_neg (by omega)]
theorem ownR_rows (l : List Op3) : OwnR (rowsL l) := fun d o ho => by
  unfold rowsL ofL at ho
  have := (List.mem_filter.1 ho).2
  simpa using this
theorem tot_rows : ∀ {l : List Op3}, (∀ o ∈ l, 1 ≤ o.1 ∧ o.1 ≤ 6) → totR (rowsL l) = l.length := by
  intro l
  induction l with
  | nil => intro _; rfl
  | cons o r ih =>
    intro h
    have h1 := ih fun x hx => h x (List.mem_cons_of_mem _ hx)
    have ho := h o (List.mem_cons_self ..)
    rw [totR_six] at h1 ⊢
    unfold rowsL at h1 ⊢
    simp only [of_consM, List.length_cons]
    rcases (show o.1 = 1 ∨ o.1 = 2 ∨ o.1 = 3 ∨ o.1 = 4 ∨ o.1 = 5 ∨ o.1 = 6 by omega) with e | e | e | e | e | e <;> rw [e] <;> simp at h1 ⊢ <;> omega
theorem mem_mix {l : List Op3} (h : ∀ o ∈ l, 1 ≤ o.1 ∧ o.1 ≤ 6) {x : List Op3} : x ∈ mixL l ↔ (∀ o ∈ x, 1 ≤ o.1 ∧ o.1 ≤ 6) ∧ ∀ d : Nat, 1 ≤ d → d ≤ 6 → ofL x (d : Int) = ofL l (d : Int) :=
  mem_mixG l.length (rowsL l) (ownR_rows l) (tot_rows h) x
/-- .. of any number: a deal that is none has no ops. -/
theorem mix_of {l x : List Op3} (h : ∀ o ∈ l, 1 ≤ o.1 ∧ o.1 ≤ 6) (hx : x ∈ mixL l) (t : Int) : ofL x t = ofL l t := by
  obtain ⟨h1, h2⟩ := (mem_mix h).1 hx
  by_cases ht : 1 ≤ t ∧ t ≤ 6
  · have := h2 t.toNat (by omega) (by omega)
    rw [show ((t.toNat : Nat) : Int) = t by omega] at this
    exact this
  · have hz : ∀ y : List Op3, (∀ o ∈ y, 1 ≤ o.1 ∧ o.1 ≤ 6) → ofL y t = [] := fun y hy => by
      unfold ofL
      refine List.filter_eq_nil_iff.2 fun o ho => ?_
      have := hy o ho
      simp
      omega
    rw [hz x h1, hz l h]
theorem mix_len : ∀ (n : Nat) (rows : Nat → List Op3), ∀ x ∈ mixG n rows, x.length = n := by
  intro n
  induction n with
  | zero => intro rows x hx; rw [mixG, List.mem_singleton] at hx; rw [hx]; rfl
  | succ n ih =>
    intro rows x hx
    obtain ⟨d, o, r, y, _, _, _, hy, rfl⟩ := mix_succ.1 hx
    rw [List.length_cons, ih _ y hy]
theorem mix_mem {l x : List Op3} (h : ∀ o ∈ l, 1 ≤ o.1 ∧ o.1 ≤ 6) (hx : x ∈ mixL l) {o : Op3} : o ∈ x ↔ o ∈ l := by
  have key : ∀ y : List Op3, o ∈ y ↔ o ∈ ofL y o.1 := fun y => by unfold ofL; rw [List.mem_filter]; simp
  rw [key x, key l, mix_of h hx]
theorem chk_deal {l : List Op3} (hc : (chk l).2 = 0) : ∀ o ∈ l, 1 ≤ o.1 ∧ o.1 ≤ 6 := fun o ho => by
  have := ((chk_iff l).1 hc).2.1 o ho
  simp [isOpB] at this
  omega
/-- Each of them is right. -/
theorem mix_chk {l x : List Op3} (hc : (chk l).2 = 0) (hx : x ∈ mixL l) : (chk x).2 = 0 := by
  obtain ⟨h1, h2, h3⟩ := (chk_iff l).1 hc
  refine (chk_iff x).2 ⟨by rw [mix_len _ _ x hx]; exact h1, fun o ho => h2 o ((mix_mem (chk_deal hc) hx).1 ho), calm_of fun t => ?_⟩
  rw [mix_of (chk_deal hc) hx]
  exact h3.sublist (List.filter_sublist ..)
/-- What is wrong with a history that is to be mixed; its mixes; how many are good; any one. -/
def mixE (l : List Op3) : Int := if (chk l).2 ≠ 0 then (chk l).2 else if 8 < l.length then 4 else 0
def mixM (l : List Op3) : List (List Op3) := if mixE l = 0 then mixL l else []
def nthE (l : List Op3) (k : Int) : Int := if mixE l ≠ 0 then mixE l else if k < 0 ∨ ((mixM l).length : Int) ≤ k then 1 else 0
def nthL (l : List Op3) (k : Int) : List Op3 := if nthE l k = 0 then (mixM l).getD k.toNat [] else []
theorem mixE_zero {l : List Op3} (h : mixE l = 0) : (chk l).2 = 0 ∧ l.length ≤ 8 := by
  unfold mixE at h
  split at h
  · contradiction
  · rename_i h1
    split at h
    · cases h
    · exact ⟨by simpa using h1, by omega⟩
theorem mixG_bound : ∀ (n : Nat) (rows : Nat → List Op3), (mixG n rows).length ≤ 6 ^ n := by
  intro n
  induction n with
  | zero => intro rows; rw [mixG]; simp
  | succ n ih =>
    intro rows
    rw [mixG, List.length_flatMap]
    have hb : ∀ i, (match rows (i + 1) with | [] => ([] : List (List Op3)) | o :: r => (mixG n (rowSet rows (i + 1) r)).map (o :: ·)).length ≤ 6 ^ n := fun i => by
      split
      · exact Nat.zero_le _
      · rw [List.length_map]; exact ih _
    simp only [List.range_succ, List.range_zero, List.nil_append, List.map_append, List.map_cons, List.map_nil, List.sum_append, List.sum_cons, List.sum_nil]
    have := hb 0; have := hb 1; have := hb 2; have := hb 3; have := hb 4; have := hb 5
    rw [Nat.pow_succ]
    omega
end Go.Proofs.YtmjjiehnjghndaaGreat

namespace Go.Proofs.YtmjjiehnjghndaaGreat
open Go.RowKit

theorem hid_m {p : Prop} (h : p) : Hid p := h
def MNthC : Prop := ∀ (l : List Op3) (ad : Option Addr) (cap : Nat) (k : Int) (w : World), IsOps w (.slice ad l.length cap) l → l.length ≤ cap → Calls Tryz.prog 5 #[.slice ad l.length cap, .int .i64 k] w fun e w' => ∃ v', e = .returned (.tuple #[v', errV (nthE l k)]) ∧ IsOps w' v' (nthL l k) ∧ Below w.heap.size w w'
end Go.Proofs.YtmjjiehnjghndaaGreat
