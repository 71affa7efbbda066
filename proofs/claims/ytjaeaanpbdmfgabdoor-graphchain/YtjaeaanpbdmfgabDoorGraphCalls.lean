/-
  PROVED HERE: graph.Order and graph.Ring, case by case: where there is an order or a ring, and where there is none.
  Conditions: none.
-/
import Derived.Test.YtjaeaanpbdmfgabDoorGraphRings
import Derived.Test.YtjaeaanpbdmfgabDoorGraphReach
namespace Go.Proofs.YtjaeaanpbdmfgabDoor
open Go.RowKit

theorem order_some (l : List Edge2) (v : Value) (w : World) (hI : IsEdges w v l) (hc : gchk l = 0) (o : List Int) (ho : orderL l = some o) :
    Calls Tryd.prog 11 #[v] w fun e w' => ∃ v', e = .returned (.tuple #[v', .nilIface]) ∧ IsInts w' v' o ∧ o.length ≤ 7 ∧ Below w.heap.size w w' := by
  refine (order_any l v w hI hc).mono ?_
  rintro e w' ⟨⟨o', v', ho', rfl, h1, h2⟩ | ⟨hn, _⟩, hb⟩
  · rw [ho] at ho'
    obtain rfl := Option.some.inj ho'
    exact ⟨v', rfl, h1, h2, hb⟩
  · rw [ho] at hn; cases hn
theorem order_none (l : List Edge2) (v : Value) (w : World) (hI : IsEdges w v l) (hc : gchk l = 0) (ho : orderL l = none) :
    Calls Tryd.prog 11 #[v] w fun e w' => e = .returned (.tuple #[.slice none 0 0, .iface 54 (.int .i64 8)]) ∧ Below w.heap.size w w' := by
  refine (order_any l v w hI hc).mono ?_
  rintro e w' ⟨⟨o', v', ho', _⟩ | ⟨_, rfl⟩, hb⟩
  · rw [ho] at ho'; cases ho'
  · exact ⟨rfl, hb⟩
theorem ring_some (l : List Edge2) (v : Value) (w : World) (hI : IsEdges w v l) (hc : gchk l = 0) (r : List Nat) (hr : ringL l = some r) :
    Calls Tryd.prog 14 #[v] w fun e w' => ∃ v', e = .returned (.tuple #[v', .nilIface]) ∧ IsInts w' v' (r.map fun (k : Nat) => (k : Int)) ∧ Below w.heap.size w w' := by
  refine (ring_any l v w hI hc).mono ?_
  rintro e w' ⟨⟨r', v', hr', rfl, h1⟩ | ⟨hn, _⟩, hb⟩
  · rw [hr] at hr'
    obtain rfl := Option.some.inj hr'
    exact ⟨v', rfl, h1, hb⟩
  · rw [hr] at hn; cases hn
theorem ring_no (l : List Edge2) (v : Value) (w : World) (hI : IsEdges w v l) (hc : gchk l = 0) (hr : ringL l = none) :
    Calls Tryd.prog 14 #[v] w fun e w' => e = .returned (.tuple #[.slice none 0 0, .iface 54 (.int .i64 5)]) ∧ Below w.heap.size w w' := by
  refine (ring_any l v w hI hc).mono ?_
  rintro e w' ⟨⟨r', v', hr', _⟩ | ⟨_, rfl⟩, hb⟩
  · rw [hr] at hr'; cases hr'
  · exact ⟨rfl, hb⟩
theorem reach_yes (l : List Edge2) (v : Value) (a b : Nat) (w : World) (hI : IsEdges w v l) (hc : gchk l = 0) (ha : dealB a = true) (hb : dealB b = true) (hw : Way (stepsS l) a b) :
    Calls Tryd.prog 17 #[v, .int .i64 a, .int .i64 b] w fun e w' => e = .returned (.tuple #[.bool true, .nilIface]) ∧ Below w.heap.size w w' := by
  refine (reach_any l v a b w hI hc ha hb).mono ?_
  rintro e w' ⟨x, rfl, hx, hb'⟩
  rw [hx.2 hw]
  exact ⟨rfl, hb'⟩
theorem reach_no (l : List Edge2) (v : Value) (a b : Nat) (w : World) (hI : IsEdges w v l) (hc : gchk l = 0) (ha : dealB a = true) (hb : dealB b = true) (hw : ¬ Way (stepsS l) a b) :
    Calls Tryd.prog 17 #[v, .int .i64 a, .int .i64 b] w fun e w' => e = .returned (.tuple #[.bool false, .nilIface]) ∧ Below w.heap.size w w' := by
  refine (reach_any l v a b w hI hc ha hb).mono ?_
  rintro e w' ⟨x, rfl, hx, hb'⟩
  cases x with
  | true => exact absurd (hx.1 rfl) hw
  | false => exact ⟨rfl, hb'⟩
end Go.Proofs.YtjaeaanpbdmfgabDoor
