/-
  PROVED HERE: plain facts, with no word of the program: which deals ran at once, and who read what another one wrote of those (chapters 12 and 13), as lists in order; what the document's own loops put together is that.
  Conditions: the deals are 1 to 6.
  PROVED HERE: laneref2.AtOnce answers as the plain onceK says. Old memory stays as it was.
  Conditions: none.
-/
import Derived.Test.YtccjognnehoodafDoorMgbb
import Derived.Test.YtccjognnehoodafDoorMgat
namespace Go.Proofs.YtccjognnehoodafDoor

def togB (of : Int → Dl) (ds : List Int) (e : Edge2) : Bool := (inB ds e.1 && inB ds e.2) && (decide (e.1 < e.2) && onceK (of e.1) (of e.2))
/-- Which two ran at once, in order. -/
def togL (of : Int → Dl) (ds : List Int) : List Edge2 := allE.filter (togB of ds)
def onceY (of : Int → Dl) (x : Int) (out : List Edge2) (y : Int) : List Edge2 := if (decide (x < y) && onceK (of x) (of y)) = true then addE out (x, y) else out
def onceX (of : Int → Dl) (ds : List Int) (out : List Edge2) (x : Int) : List Edge2 := ds.foldl (onceY of x) out
/-- .. as the statement puts them together. -/
def onceE (of : Int → Dl) (ds : List Int) : List Edge2 := ds.foldl (onceX of ds) []
theorem rise_fold {α : Type} (f : List Edge2 → α → List Edge2) (hf : ∀ out x, Rise out → Rise (f out x)) : ∀ (l : List α) (out : List Edge2), Rise out → Rise (l.foldl f out) := by
  intro l
  induction l with
  | nil => intro out h; exact h
  | cons x r ih => intro out h; exact ih _ (hf out x h)
theorem onceY_rise (of : Int → Dl) (x : Int) (out : List Edge2) (y : Int) (h : Rise out) : Rise (onceY of x out y) := by
  unfold onceY
  split
  · exact addE_rise _ _ h
  · exact h
theorem onceE_rise (of : Int → Dl) (ds : List Int) : Rise (onceE of ds) := rise_fold _ (fun out x h => rise_fold _ (onceY_rise of x) ds out h) ds [] List.Pairwise.nil
theorem mem_onceE (of : Int → Dl) (ds : List Int) (e : Edge2) : e ∈ onceE of ds ↔ e.1 ∈ ds ∧ e.2 ∈ ds ∧ e.1 < e.2 ∧ onceK (of e.1) (of e.2) = true := by
  unfold onceE
  rw [mem_fold3 (onceX of ds) (fun x e => ∃ y ∈ ds, (decide (x < y) && onceK (of x) (of y)) = true ∧ e = (x, y)) (fun out x e => by
    unfold onceX
    rw [mem_fold3 (onceY of x) (fun y e => (decide (x < y) && onceK (of x) (of y)) = true ∧ e = (x, y)) (fun out y e => by
      unfold onceY
      by_cases h : (decide (x < y) && onceK (of x) (of y)) = true
      · rw [if_pos h, mem_addE3]
        simp [h]
      · rw [if_neg h]
        simp [h])])]
  constructor
  · rintro (h | ⟨x, hx, y, hy, h1, rfl⟩)
    · cases h
    · rw [Bool.and_eq_true, decide_eq_true_eq] at h1
      exact ⟨hx, hy, h1.1, h1.2⟩
  · rintro ⟨h1, h2, h3, h4⟩
    exact .inr ⟨e.1, h1, e.2, h2, by rw [Bool.and_eq_true, decide_eq_true_eq]; exact ⟨h3, h4⟩, rfl⟩
theorem inB_mem (ds : List Int) (x : Int) : inB ds x = true ↔ x ∈ ds := by unfold inB; simp
theorem once_tog {of : Int → Dl} {ds : List Int} (hd : ∀ t ∈ ds, 1 ≤ t ∧ t ≤ 6) : onceE of ds = togL of ds := by
  refine rise_eq _ _ (onceE_rise of ds) (List.Pairwise.sublist List.filter_sublist allE_rise) fun e => ?_
  rw [mem_onceE]
  unfold togL togB
  rw [List.mem_filter, Bool.and_eq_true, Bool.and_eq_true, Bool.and_eq_true, decide_eq_true_eq, inB_mem, inB_mem]
  constructor
  · rintro ⟨h1, h2, h3, h4⟩
    exact ⟨mem_allE (hd _ h1).1 (hd _ h1).2 (hd _ h2).1 (hd _ h2).2, ⟨h1, h2⟩, h3, h4⟩
  · rintro ⟨_, ⟨h1, h2⟩, h3, h4⟩
    exact ⟨h1, h2, h3, h4⟩
def antB (of : Int → Dl) (ds : List Int) (e : Edge2) : Bool := (inB ds e.1 && inB ds e.2) && (e.1 != e.2 && antiB e.1 (of e.1) (of e.2))
/-- Who read what another one wrote, in order. -/
def antL (of : Int → Dl) (ds : List Int) : List Edge2 := allE.filter (antB of ds)
theorem antW_rise (x y : Int) (a : Dl) (out : List Edge2) (wr : List Int) (h : Rise out) : Rise (antiW x y a out wr) := by
  unfold antiW
  refine rise_fold _ (fun out item h => ?_) wr out h
  split
  · exact addE_rise _ _ h
  · exact h
theorem antiE_rise (of : Int → Dl) (ds : List Int) : Rise (antiE of ds) :=
  rise_fold _ (fun out x h => rise_fold _ (fun out y h => by unfold antiY; split; exact h; exact antW_rise _ _ _ _ _ h) ds out h) ds [] List.Pairwise.nil
theorem anti_ant {of : Int → Dl} {ds : List Int} (hd : ∀ t ∈ ds, 1 ≤ t ∧ t ≤ 6) : antiE of ds = antL of ds := by
  refine rise_eq _ _ (antiE_rise of ds) (List.Pairwise.sublist List.filter_sublist allE_rise) fun e => ?_
  rw [mem_antiE]
  unfold antL antB
  rw [List.mem_filter, Bool.and_eq_true, Bool.and_eq_true, Bool.and_eq_true, inB_mem, inB_mem, bne_iff_ne]
  constructor
  · rintro ⟨h1, h2, h3, h4⟩
    exact ⟨mem_allE (hd _ h1).1 (hd _ h1).2 (hd _ h2).1 (hd _ h2).2, ⟨h1, h2⟩, h3, h4⟩
  · rintro ⟨_, ⟨h1, h2⟩, h3, h4⟩
    exact ⟨h1, h2, h3, h4⟩
theorem allE_len (P : Edge2 → Bool) : (allE.filter P).length ≤ 36 := Nat.le_trans (List.length_filter_le _ _) (by unfold allE; simp)
theorem onceE_len {of : Int → Dl} : ∀ (fs : List Int) (out : List Edge2) (x : Int), (fs.foldl (onceY of x) out).length ≤ out.length + fs.length := by
  intro fs
  induction fs with
  | nil => intro out x; simp
  | cons y r ih =>
    intro out x
    rw [List.foldl_cons, List.length_cons]
    have h1 := ih (onceY of x out y) x
    have h2 : (onceY of x out y).length ≤ out.length + 1 := by
      unfold onceY
      split
      · exact addE_len _ _
      · omega
    omega
end Go.Proofs.YtccjognnehoodafDoor

namespace Go.Proofs.YtccjognnehoodafDoor
open Go.RowKit

set_option maxHeartbeats 4000000 in
theorem once_raw (t1 b1 e1 t2 b2 e2 : Int) (s1 w1 s2 w2 : Value) (w : World) : Calls Tryd.prog 9 #[.agg #[.int .i64 t1, .int .i64 b1, .int .i64 e1, s1, w1], .agg #[.int .i64 t2, .int .i64 b2, .int .i64 e2, s2, w2]] w fun e w' => e = .returned (.bool ((decide (e2 < 0) || decide (b1 < e2)) && (decide (e1 < 0) || decide (b2 < e1)))) ∧ Below w.heap.size w w' := by
  have HB : Hid (Below w.heap.size w ((w.alloc (.cells #[.int .i64 t1, .int .i64 b1, .int .i64 e1, s1, w1] 39)).alloc (.cells #[.int .i64 t2, .int .i64 b2, .int .i64 e2, s2, w2] 39))) := ((Below.refl _ w).alloc (Nat.le_refl _) _).alloc (by simp) _
  go_enter Tryd.func9, Tryd.ntmps9
  go_wp2
  all_goals go_ret
  all_goals exact ⟨ret_bool (by first | (simp_all; done) | (simp_all; intros; omega)), HB.out⟩
theorem once_any (t1 t2 : Int) (a b : Dl) (s1 w1 s2 w2 : Value) (w : World) : Calls Tryd.prog 9 #[dlV t1 a s1 w1, dlV t2 b s2 w2] w fun e w' => e = .returned (.bool (onceK a b)) ∧ Below w.heap.size w w' := once_raw _ _ _ _ _ _ _ _ _ _ w
end Go.Proofs.YtccjognnehoodafDoor
