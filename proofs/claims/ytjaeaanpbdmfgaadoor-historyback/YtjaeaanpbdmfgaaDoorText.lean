/-
  PROVED HERE: history.printOp writes an op that is right as its text; the text of a list of ops, in plain words.
  Conditions: none.
-/
import Derived.Test.YtjaeaanpbdmfgaaDoorStr2
import Derived.Test.YtjaeaanpbdmfgaaDoorDone
import Derived.Deep.QuietTactic
import Derived.BigQuiet
import Derived.WalkSmall
namespace Go.Proofs.YtjaeaanpbdmfgaaDoor
open Go.RowKit

def whatC (a : Int) : UInt8 := if a = 1 then 114 else if a = 2 then 119 else if a = 3 then 99 else 97
/-- The text of an op. -/
def opTxt (o : Op3) : List UInt8 := whatC o.2.1 :: digC o.1 :: (if endsB o.2.1 then [] else [40, (96 + o.2.2.toNat).toUInt8, 41])
/-- The text of a list of ops. -/
def txtL : List Op3 → List UInt8
  | [] => []
  | o :: r => opTxt o ++ r.flatMap fun x => 32 :: opTxt x
theorem txtL_snoc (l : List Op3) (o : Op3) (h : l ≠ []) : txtL (l ++ [o]) = txtL l ++ 32 :: opTxt o := by
  cases l with
  | nil => exact absurd rfl h
  | cons a r => simp [txtL]
theorem opTxt_len (o : Op3) : (opTxt o).length ≤ 5 ∧ 2 ≤ (opTxt o).length := by
  unfold opTxt; split <;> simp
theorem txtL_len (l : List Op3) : (txtL l).length ≤ 6 * l.length := by
  have h : ∀ r : List Op3, (r.flatMap fun x => 32 :: opTxt x).length ≤ 6 * r.length := by
    intro r
    induction r with
    | nil => simp
    | cons a r ih => have := (opTxt_len a).1; simp only [List.flatMap_cons, List.length_append, List.length_cons]; omega
  cases l with
  | nil => simp [txtL]
  | cons a r => have := (opTxt_len a).1; have := h r; simp only [txtL, List.length_append, List.length_cons]; omega

theorem ret_str {s u : ByteArray} (h : s = u) : Ending.returned (.string s) = .returned (.string u) := by rw [h]
set_option maxHeartbeats 4000000 in
theorem printOp_end (t a : Int) (w : World) (h1 : 1 ≤ t) (h6 : t ≤ 6) (ha : a = 3 ∨ a = 4) :
    Calls Tryd.prog 44 #[.agg #[.int .i64 t, .int .i64 a, .int .i64 0]] w fun e w' => e = .returned (.string ⟨(opTxt (t, a, 0)).toArray⟩) ∧ Below w.heap.size w w' := by
  rcases ha with rfl | rfl
  · go_enter Tryd.func44, Tryd.ntmps44
    go_wp2
    go_quiet ((go_at_call 62; exact Calls.quiet_of_same (itoa_small t _ h1 h6)))
    go_wp2
    go_ret
    exact ⟨ret_str (byteArray_ext rfl), below_drewN (by go_grown) _⟩
  · go_enter Tryd.func44, Tryd.ntmps44
    go_wp2
    go_quiet ((go_at_call 62; exact Calls.quiet_of_same (itoa_small t _ h1 h6)))
    go_wp2
    go_ret
    exact ⟨ret_str (byteArray_ext rfl), below_drewN (by go_grown) _⟩
set_option maxHeartbeats 8000000 in
theorem printOp_item (t a i : Int) (w : World) (h1 : 1 ≤ t) (h6 : t ≤ 6) (ha : a = 1 ∨ a = 2) (i1 : 1 ≤ i) (i6 : i ≤ 6) :
    Calls Tryd.prog 44 #[.agg #[.int .i64 t, .int .i64 a, .int .i64 i]] w fun e w' => e = .returned (.string ⟨(opTxt (t, a, i)).toArray⟩) ∧ Below w.heap.size w w' := by
  rcases ha with rfl | rfl <;> rcases (show i = 1 ∨ i = 2 ∨ i = 3 ∨ i = 4 ∨ i = 5 ∨ i = 6 by omega) with rfl | rfl | rfl | rfl | rfl | rfl
  all_goals
    go_enter Tryd.func44, Tryd.ntmps44
    go_wp2
    go_quiet ((go_at_call 62; exact Calls.quiet_of_same (itoa_small t _ h1 h6)))
    go_wp2
    go_ret
    exact ⟨ret_str (byteArray_ext rfl), below_drewN (by go_grown) _⟩
theorem printOp_any (o : Op3) (w : World) (ho : isOpB o = true) :
    Calls Tryd.prog 44 #[.agg #[.int .i64 o.1, .int .i64 o.2.1, .int .i64 o.2.2]] w fun e w' => e = .returned (.string ⟨(opTxt o).toArray⟩) ∧ Below w.heap.size w w' := by
  obtain ⟨t, a, i⟩ := o
  simp [isOpB, endsB] at ho
  obtain ⟨⟨⟨⟨h1, h2⟩, h3⟩, h4⟩, h5⟩ := ho
  by_cases he : a = 3 ∨ a = 4
  · rw [if_pos he] at h5
    subst h5
    exact printOp_end t a w (by omega) (by omega) he
  · rw [if_neg he] at h5
    exact printOp_item t a i w (by omega) (by omega) (by omega) h5.1 h5.2
end Go.Proofs.YtjaeaanpbdmfgaaDoor
