/-
  PROVED HERE: of two right lists the document's answer 'alike' and the program's answer 'the same but for what may change places' are one. A plain fact, with no word of the program.
  Conditions: none.
-/
import Derived.Test.YtjaeaanpbdmfgaaDoorRefAlike
import Derived.Test.YtjaeaanpbdmfgaaDoorOddSameWalk
namespace Go.Proofs.YtjaeaanpbdmfgaaDoor

theorem chk_deals {l : List Op3} (hc : (chk l).2 = 0) : ∀ o ∈ l, 1 ≤ o.1 ∧ o.1 ≤ 6 := by
  intro o ho
  obtain ⟨t, a, i⟩ := o
  have := (isOp_good (chk_ops hc _ ho)).1
  simpa using this
theorem any_congr' {q r : Edge2 → Bool} : ∀ {l : List Edge2}, (∀ e ∈ l, q e = r e) → l.any q = l.any r := by
  intro l
  induction l with
  | nil => intro _; rfl
  | cons a t ih =>
    intro h
    rw [List.any_cons, List.any_cons, h a (List.mem_cons_self ..), ih fun e he => h e (List.mem_cons_of_mem _ he)]
theorem alike_same (h g : List Op3) (hc : (chk h).2 = 0) (hd : (chk g).2 = 0) : alikeB h g = sameB h g := by
  have h1 := chk_deals hc
  have h2 := chk_deals hd
  by_cases hq : dealsEq h g
  · have hn := named_of_deals h1 hq
    have hl := len_of_deals h1 h2 hq
    rw [sameB_yes ⟨hl, hn⟩]
    unfold alikeB
    rw [(eqTo_iff h g).2 hq, Bool.true_and]
    congr 1
    refine any_congr' fun e he => ?_
    obtain ⟨i, j, hij, hj, _, rfl⟩ := mem_pairs.1 he
    obtain ⟨k, k1, k2⟩ := hn i (by omega)
    obtain ⟨m, m1, m2⟩ := hn j hj
    have p1 := place_name k1 k2
    have p2 := place_name m1 m2
    simp [outB, turnedB, placeI, spot, p1, p2]
  · have hno : ¬ (h.length = g.length ∧ Named h g) := fun ⟨hl, hn⟩ => hq (deals_of_named h1 h2 hl hn)
    rw [sameB_no hno]
    unfold alikeB
    cases he : eqTo h g 6 with
    | false => rfl
    | true => exact absurd ((eqTo_iff h g).1 he) hq
end Go.Proofs.YtjaeaanpbdmfgaaDoor
