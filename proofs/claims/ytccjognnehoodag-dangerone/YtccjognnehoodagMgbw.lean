/-
  PROVED HERE: plain facts, with no word of the program: who read what another one wrote, as package danger tells it over a run of package course, is chapter 13's; its rules answer as that kind of run has it.
  Conditions: none.
  PROVED HERE: nothing yet: what slices.Sort is asked at a row of whole numbers.
  Conditions: none.
-/
import Derived.Test.YtccjognnehoodagMgbu
import Derived.Test.YtccjognnehoodagMgba
import Derived.Test.YtccjognnehoodagMgad
import Derived.Test.YtccjognnehoodagMgbe
namespace Go.Proofs.Ytccjognnehoodag

/-- Did one read what another one wrote, as the program tells it? -/
def overQ (q : Crs) (a b : Int) : Bool := (q.read a).any fun x => x.2.2 != a && inB (q.wrote b) x.2.1
def edgB (q : Crs) (a b : Int) : Bool := (a != b && isT q a b) && overQ q a b
/-- All pairs of a list of which something is so. -/
def edgesG (is : Int → Int → Bool) (ds : List Int) : List Int → List Edge2
  | [] => []
  | x :: r => ((ds.filter (is x)).map fun y => (x, y)) ++ edgesG is ds r
def edgQ (q : Crs) (ds : List Int) : List Edge2 := edgesG (edgB q) (sortI ds) (sortI ds)
def fallD (q : Crs) (t : Int) : Bool := fallS q t || decide (0 < (pivTo (edgQ q (q.done ++ [t])) 6).length)
theorem mem_edgesG (is : Int → Int → Bool) (ds : List Int) : ∀ r e, e ∈ edgesG is ds r ↔ e.1 ∈ r ∧ e.2 ∈ ds ∧ is e.1 e.2 = true := by
  intro r
  induction r with
  | nil => intro e; simp [edgesG]
  | cons x r ih =>
    intro e
    unfold edgesG
    rw [List.mem_append, ih e, List.mem_map, List.mem_cons]
    constructor
    · rintro (⟨y, hy, rfl⟩ | ⟨h1, h2⟩)
      · obtain ⟨h1, h2⟩ := List.mem_filter.1 hy
        exact ⟨.inl rfl, h1, h2⟩
      · exact ⟨.inr h1, h2⟩
    · rintro ⟨h1 | h1, h2, h3⟩
      · exact .inl ⟨e.2, List.mem_filter.2 ⟨h2, by rw [← h1]; exact h3⟩, by rw [← h1]⟩
      · exact .inr ⟨h1, h2, h3⟩
theorem edgesG_rise (is : Int → Int → Bool) (ds : List Int) (hd : ds.Pairwise (· < ·)) : ∀ r : List Int, r.Pairwise (· < ·) → Rise (edgesG is ds r) := by
  intro r
  induction r with
  | nil => intro _; exact List.Pairwise.nil
  | cons x r ih =>
    intro hp
    obtain ⟨h1, h2⟩ := List.pairwise_cons.1 hp
    unfold edgesG Rise
    refine List.pairwise_append.2 ⟨?_, ih h2, fun a ha b hb => ?_⟩
    · rw [List.pairwise_map]
      refine (hd.sublist List.filter_sublist).imp fun {y z} hyz => ?_
      unfold ltB
      simp
      omega
    · obtain ⟨y, hy, rfl⟩ := List.mem_map.1 ha
      have := h1 _ ((mem_edgesG is ds r b).1 hb).1
      unfold ltB
      simp
      omega
theorem edgesG_len (is : Int → Int → Bool) (ds : List Int) : ∀ r : List Int, (edgesG is ds r).length ≤ r.length * ds.length := by
  intro r
  induction r with
  | nil => simp [edgesG]
  | cons x r ih =>
    unfold edgesG
    rw [List.length_append, List.length_map, List.length_cons, Nat.succ_mul]
    have := List.length_filter_le (is x) ds
    omega
/-- Of those that are done, or have not ended. -/
def SetQ (s : Kst) (ds : List Int) : Prop := ∀ x ∈ ds, s.beg x = true ∧ ((x ∈ s.done ∧ 0 ≤ (s.of x).ended) ∨ (x ∉ s.done ∧ (s.of x).ended < 0))
theorem half_once {s : Kst} {q : Crs} (h : CFit s q) {ds : List Int} (hs : SetQ s ds) {x y : Int} (hx : x ∈ ds) (hy : y ∈ ds) (hxy : x ≠ y) : (!inB (q.done.take ((q.began x).getD 0)) y) = (decide ((s.of y).ended < 0) || decide ((s.of x).began < (s.of y).ended)) := by
  rcases (hs y hy).2 with ⟨h1, h2⟩ | ⟨h1, h2⟩
  · rw [take_ended h (hs x hx).1 h1 hxy, decide_eq_false (show ¬ (s.of y).ended < 0 by omega), Bool.false_or]
  · rw [take_none h h1, decide_eq_true h2, Bool.true_or]
theorem isT_set {s : Kst} {q : Crs} (h : CFit s q) {ds : List Int} (hs : SetQ s ds) {a b : Int} (ha : a ∈ ds) (hb : b ∈ ds) (hab : a ≠ b) : isT q a b = onceK (s.of a) (s.of b) := by
  unfold isT onceK
  rw [half_once h hs hb ha (fun e => hab e.symm), half_once h hs ha hb hab, Bool.and_comm]
theorem over_anti {s : Kst} {q : Crs} (h : CFit s q) (a b : Int) : overQ q a b = ((s.of b).wrote.any fun item => readK a (s.of a) item) := by
  unfold overQ readK
  rw [h.read a, h.wrote b, Bool.eq_iff_iff]
  simp only [List.any_eq_true, Bool.and_eq_true, beq_iff_eq]
  constructor
  · rintro ⟨x, hx, h1, h2⟩
    exact ⟨x.2.1, inB_iff.1 h2, x, hx, rfl, h1⟩
  · rintro ⟨i, hi, x, hx, h1, h2⟩
    exact ⟨x, hx, h2, by rw [h1]; exact inB_iff.2 hi⟩
/-- What the program tells is chapter 13's. -/
theorem edg_ant {s : Kst} {q : Crs} (h : CFit s q) {ds : List Int} (hn : ds.Nodup) (h6 : ∀ t ∈ ds, 1 ≤ t ∧ t ≤ 6) (hs : SetQ s ds) : edgQ q ds = antL s.of ds := by
  have hm : ∀ x, x ∈ sortI ds ↔ x ∈ ds := fun x => (sortI_perm ds).mem_iff
  unfold edgQ
  refine rise_eq _ _ (edgesG_rise _ _ (sortI_rise hn) _ (sortI_rise hn)) (List.Pairwise.sublist List.filter_sublist allE_rise) fun e => ?_
  rw [mem_edgesG, hm, hm]
  unfold antL antB edgB antiB
  simp only [List.mem_filter, Bool.and_eq_true, inB_mem, bne_iff_ne]
  constructor
  · rintro ⟨h1, h2, ⟨h3, h4⟩, h5⟩
    exact ⟨mem_allE (h6 _ h1).1 (h6 _ h1).2 (h6 _ h2).1 (h6 _ h2).2, ⟨h1, h2⟩, h3, by rw [← isT_set h hs h1 h2 h3]; exact h4, by rw [← over_anti h]; exact h5⟩
  · rintro ⟨_, ⟨h1, h2⟩, h3, h4, h5⟩
    exact ⟨h1, h2, ⟨h3, by rw [isT_set h hs h1 h2 h3]; exact h4⟩, by rw [over_anti h]; exact h5⟩
theorem hit_23 (s : Kst) (t : Int) (r : Dl) : hitK 3 s t r = hitK 2 s t r := by unfold hitK; simp
theorem see_23 (s : Kst) (at_ : Int) (r : Dl) (t item : Int) : seeK 3 s at_ r t item = seeK 2 s at_ r t item := by unfold seeK; simp
theorem rulesD : RulesK 3 okBtw seesS fallD := by
  intro l k s q t hK h h1 hnd ht1 ht6
  obtain ⟨a, b⟩ := rulesS l k s q t hK h h1 hnd ht1 ht6
  refine ⟨fun item => by rw [a item, see_23], ?_⟩
  unfold okS at b
  rw [Bool.not_not] at b
  unfold fallD okBtw
  rw [b, hit_23, Bool.not_and, Bool.not_not, Bool.not_not, begQ_done, h.done]
  congr 1
  have hof : (stayStep s k t).of = setF s.of t (nowK s k t) := rfl
  have hnow : (nowK s k t).ended = -1 := by
    unfold nowK
    split
    · rename_i hb; exact hK.open_ t hb hnd
    · rfl
  have hset : SetQ (stayStep s k t) (s.done ++ [t]) := fun x hx => by
    rcases List.mem_append.1 hx with hx | hx
    · have hne : x ≠ t := fun e => hnd (e ▸ hx)
      refine ⟨?_, .inl ⟨hx, ?_⟩⟩
      · show setF s.beg t true x = true
        rw [setF_other _ _ hne]; exact (hK.comm x hx).1
      · show 0 ≤ (setF s.of t (nowK s k t) x).ended
        rw [setF_other _ _ hne]; exact (hK.comm x hx).2.2.2.1
    · have e := List.mem_singleton.1 hx
      subst e
      refine ⟨?_, .inr ⟨hnd, ?_⟩⟩
      · show setF s.beg x true x = true
        rw [setF_same]
      · show (setF s.of x (nowK s k x) x).ended < 0
        rw [setF_same, hnow]; decide
  have h6 : ∀ x ∈ s.done ++ [t], 1 ≤ x ∧ x ≤ 6 := fun x hx => by
    rcases List.mem_append.1 hx with hx | hx
    · exact ⟨(hK.comm x hx).2.1, (hK.comm x hx).2.2.1⟩
    · rw [List.mem_singleton.1 hx]; exact ⟨ht1, ht6⟩
  have hnod : (s.done ++ [t]).Nodup := by
    rw [List.nodup_append]
    exact ⟨hK.once, by simp, fun x hx y hy e => hnd (by rw [List.mem_singleton.1 hy] at e; exact e ▸ hx)⟩
  rw [edg_ant h1 hnod h6 hset, hof, ← anti_ant h6, Bool.eq_iff_iff, decide_eq_true_eq, List.length_pos_iff, ne_eq, piv_none h6, Bool.not_eq_false]
end Go.Proofs.Ytccjognnehoodag

namespace Go.Proofs.Ytccjognnehoodag
open Go.RowKit

/-- What slices.Sort is asked at a row of numbers of one's own. -/
def SortC : Prop := ∀ (zs : List Int) (v : Value) (base n : Nat) (w : World), zs.length = n → zs.length ≤ 1000 → w.ownsRow base 3 1 v n (zs.map (Value.int .i64)) →
  Calls Try.prog 31 #[v] w fun e w' => e = .returned (.tuple #[]) ∧ w'.ownsRow base 3 1 v n ((sortI zs).map (Value.int .i64)) ∧ w.grownBy w' v.ownBlock
end Go.Proofs.Ytccjognnehoodag
