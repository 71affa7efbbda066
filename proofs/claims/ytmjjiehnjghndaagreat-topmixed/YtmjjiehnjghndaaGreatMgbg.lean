/-
  PROVED HERE: what lanetop.TopMixed asks of lanetop.one, serial.Order and serial.Serial.
  Conditions: none.
  PROVED HERE: plain facts, with no word of the program: orders gone over one behind the other, as long as more is wanted; those of a history deal by deal.
  Conditions: none.
-/
import Derived.Test.YtmjjiehnjghndaaGreatMgax
import Derived.Test.YtmjjiehnjghndaaGreatMgbe
import Derived.Test.YtmjjiehnjghndaaGreatMgbf
import Derived.Test.YtmjjiehnjghndaaGreatMgal
namespace Go.Proofs.YtmjjiehnjghndaaGreat
open Go.RowKit

theorem oneMC : OneM := fun w => one_any w
theorem ordMC : OrdM := by
  intro l o v w h hc ho
  refine (ord_any l v w h hc).mono ?_
  rintro e w' ⟨⟨o', v', ho', rfl, hi⟩ | ⟨hn, -⟩, hb⟩
  · rw [ho] at ho'
    obtain rfl := Option.some.inj ho'
    exact ⟨v', rfl, hi, hb⟩
  · rw [ho] at hn; cases hn
theorem serMC : SerM := fun l o v u w h hu hc hs => ser_ok l o v u w h hu hc hs
end Go.Proofs.YtmjjiehnjghndaaGreat

namespace Go.Proofs.YtmjjiehnjghndaaGreat

/-- Orders gone over, as long as more is wanted: what it comes to, and whether more is wanted still. -/
def goO {S : Type} (st : S → List Op3 → S × Bool) : List (List Op3) → S → S × Bool
  | [], s => (s, true)
  | x :: r, s => if (st s x).2 = true then goO st r (st s x).1 else ((st s x).1, false)
theorem goO_app {S : Type} (st : S → List Op3 → S × Bool) (m : List (List Op3)) : ∀ (l : List (List Op3)) (s : S), goO st (l ++ m) s = if (goO st l s).2 = true then goO st m (goO st l s).1 else goO st l s := by
  intro l
  induction l with
  | nil => intro s; rfl
  | cons x r ih =>
    intro s
    rw [List.cons_append, goO, goO]
    by_cases h : (st s x).2 = true
    · rw [if_pos h, if_pos h, ih]
    · rw [if_neg h, if_neg h]; simp
theorem goO_on {S : Type} {st : S → List Op3 → S × Bool} {l m : List (List Op3)} {s s1 : S} (h : goO st l s = (s1, true)) : goO st (l ++ m) s = goO st m s1 := by rw [goO_app, h]; rfl
theorem goO_stop {S : Type} {st : S → List Op3 → S × Bool} {l m : List (List Op3)} {s s1 : S} (h : goO st l s = (s1, false)) : goO st (l ++ m) s = (s1, false) := by rw [goO_app, h]; rfl
/-- The orders in which a deal's op comes first. -/
def partN (n : Nat) (rows : Nat → List Op3) (d : Nat) : List (List Op3) := match rows d with
  | [] => []
  | o :: r => (mixG n (rowSet rows d r)).map (o :: ·)
/-- Those of the deals below a number. -/
def mixUp (n : Nat) (rows : Nat → List Op3) (k : Nat) : List (List Op3) := (List.range k).flatMap fun i => partN n rows i
theorem mixUp_succ (n : Nat) (rows : Nat → List Op3) (k : Nat) : mixUp n rows (k + 1) = mixUp n rows k ++ partN n rows k := by
  unfold mixUp
  rw [List.range_succ, List.flatMap_append]
  simp
theorem mixUp_seven {n : Nat} {rows : Nat → List Op3} (h : rows 0 = []) : mixUp n rows 7 = mixG (n + 1) rows := by
  have h0 : partN n rows 0 = [] := by unfold partN; rw [h]
  unfold mixUp
  rw [List.range_succ_eq_map, List.flatMap_cons, h0, List.nil_append, List.flatMap_map]
  rfl
theorem mixUp_pre (n : Nat) (rows : Nat → List Op3) {k : Nat} (hk : k ≤ 7) : ∃ m, mixUp n rows 7 = mixUp n rows k ++ m := by
  refine ⟨((List.range (7 - k)).map (k + ·)).flatMap fun i => partN n rows i, ?_⟩
  unfold mixUp
  rw [← List.flatMap_append, ← List.range_add, show k + (7 - k) = 7 by omega]
theorem part_mapN {n : Nat} {rows : Nat → List Op3} {d : Nat} {o : Op3} {r begun : List Op3} (h : rows d = o :: r) : (partN n rows d).map (begun ++ ·) = (mixG n (rowSet rows d r)).map ((begun ++ [o]) ++ ·) := by
  unfold partN
  rw [h, List.map_map]
  congr 1
  funext y
  simp
theorem part_in {n : Nat} {rows : Nat → List Op3} {d : Nat} {o : Op3} {r y : List Op3} (h : rows d = o :: r) (h1 : 1 ≤ d) (h6 : d ≤ 6) (hy : y ∈ mixG n (rowSet rows d r)) : o :: y ∈ mixG (n + 1) rows :=
  mix_succ.2 ⟨d, o, r, y, h1, h6, h, hy, rfl⟩
end Go.Proofs.YtmjjiehnjghndaaGreat
