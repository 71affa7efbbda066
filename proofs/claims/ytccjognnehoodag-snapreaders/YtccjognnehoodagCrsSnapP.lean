/-
  PROVED HERE: plain facts, with no word of the program: chapter 12's rules, as package snap has them over package course, answer as that kind of run has it; which two ran at once, told of those that are done, in order, is chapter 12's Together.
  Conditions: none.
-/
import Derived.Test.YtccjognnehoodagCrsPlain
import Derived.Test.YtccjognnehoodagSnapPlain
import Derived.Test.YtccjognnehoodagTogPlain
import Derived.Test.YtccjognnehoodagSerPlain
namespace Go.Proofs.Ytccjognnehoodag

def seesS (q : Crs) (t item : Int) : Int := lastQ q.wrote (q.done.take ((q.began t).getD 0)) item
def fallS (q : Crs) (t : Int) : Bool := (q.done.drop ((q.began t).getD 0)).any fun o => (q.wrote t).any fun i => inB (q.wrote o) i
theorem who_front {of : Int → Dl} (a : List Int) {item time below : Int} (b : List Int) (h : ∀ t ∈ b, time ≤ (of t).ended) : whoK (a ++ b) of item time below = whoK a of item time below := by
  unfold whoK
  rw [List.foldl_append]
  obtain ⟨f, hf⟩ : ∃ f, a.foldl (fun f t => if (!inB (of t).wrote item || decide (time ≤ (of t).ended)) = true then f else if below = 0 then t else if t < below ∧ f < t then t else f) 0 = f := ⟨_, rfl⟩
  rw [hf]
  clear hf
  induction b generalizing f with
  | nil => rfl
  | cons t r ih =>
    rw [List.foldl_cons, if_pos (by rw [decide_eq_true (h t List.mem_cons_self), Bool.or_true])]
    exact ih (fun u hu => h u (List.mem_cons_of_mem _ hu)) f
theorem rulesS : RulesK 2 okS seesS fallS := by
  intro l k s q t hK h h1 hnd _ _
  have hb : ((begQ q t).began t).isSome = true := by rw [h1.beg t]; show setF s.beg t true t = true; exact setF_same ..
  obtain ⟨n, hn⟩ := Option.isSome_iff_exists.1 hb
  obtain ⟨-, b, c⟩ := h1.cnt t n hn
  have hof : (stayStep s k t).of t = nowK s k t := by show setF s.of t _ t = _; exact setF_same ..
  have hoth : ∀ i ∈ s.done, (stayStep s k t).of i = s.of i := fun i hi => by show setF s.of t _ i = _; exact setF_other _ _ fun e => hnd (e ▸ hi)
  have htk : ∀ i ∈ s.done.take n, (s.of i).ended < (nowK s k t).began := fun i hi => by
    have := b i hi
    rw [hof, hoth i (mem_takeQ hi)] at this
    exact this
  have hdr : ∀ i ∈ s.done.drop n, (nowK s k t).began < (s.of i).ended := fun i hi => by
    have hi' : i ∈ s.done := List.mem_of_mem_drop hi
    have := c i hi fun e => hnd (e ▸ hi')
    rw [hof, hoth i hi'] at this
    exact this
  constructor
  · intro item
    unfold seesS seeK
    have e3 : whoK s.done s.of item (nowK s k t).began 0 = lastK s.of (s.done.take n) item := by
      conv => lhs; rw [← List.take_append_drop n s.done]
      rw [who_front _ _ (fun i hi => Int.le_of_lt (hdr i hi)), who_last htk]
    rw [if_neg (by decide), if_neg (by decide), hn, begQ_done, begQ_wrote, h.done, e3]
    have e2 : q.wrote = fun t => (s.of t).wrote := funext h.wrote
    unfold lastQ lastK
    rw [e2]
    rfl
  · unfold fallS okS hitK
    rw [Bool.not_not, hn, begQ_done, h.done, h1.wrote t, hof, begQ_wrote, Bool.eq_iff_iff]
    simp only [Option.getD_some, List.any_eq_true, Bool.and_eq_true, decide_eq_true_eq]
    constructor
    · rintro ⟨i, hi, x, hx, hw⟩
      rw [h.wrote i] at hw
      exact ⟨i, List.mem_of_mem_drop hi, x, inB_iff.1 hw, hdr i hi, by rw [if_pos (by decide)]; exact inB_iff.2 hx⟩
    · rintro ⟨i, hi, x, hx, hlt, hw⟩
      rw [if_pos (by decide)] at hw
      refine ⟨i, ?_, x, inB_iff.1 hw, by rw [h.wrote i]; exact inB_iff.2 hx⟩
      rcases List.mem_append.1 (by rw [List.take_append_drop]; exact hi : i ∈ s.done.take n ++ s.done.drop n) with hm | hm
      · have := htk i hm
        omega
      · exact hm
/-- Did two run at once, as the program tells it? -/
def isT (q : Crs) (a b : Int) : Bool := !inB (q.done.take ((q.began b).getD 0)) a && !inB (q.done.take ((q.began a).getD 0)) b
/-- Who is done was done when another one began just if it had ended by then. -/
theorem take_ended {s : Kst} {q : Crs} (h : CFit s q) {x y : Int} (hx : s.beg x = true) (hy : y ∈ s.done) (hxy : x ≠ y) : (!inB (q.done.take ((q.began x).getD 0)) y) = decide ((s.of x).began < (s.of y).ended) := by
  have hbx : (q.began x).isSome = true := by rw [h.beg x]; exact hx
  obtain ⟨n, hn⟩ := Option.isSome_iff_exists.1 hbx
  obtain ⟨-, c1, c2⟩ := h.cnt x n hn
  rw [hn, h.done, Bool.eq_iff_iff, decide_eq_true_eq, Bool.not_eq_true', ← Bool.not_eq_true, inB_iff]
  show y ∉ s.done.take n ↔ _
  constructor
  · intro hm
    rcases List.mem_append.1 (by rw [List.take_append_drop]; exact hy : y ∈ s.done.take n ++ s.done.drop n) with h1 | h1
    · exact absurd h1 hm
    · exact c2 y h1 fun e => hxy e.symm
  · intro hlt hm
    have := c1 y hm
    omega
theorem take_none {s : Kst} {q : Crs} (h : CFit s q) {x y : Int} (hy : y ∉ s.done) : (!inB (q.done.take ((q.began x).getD 0)) y) = true := by
  rw [Bool.not_eq_true', ← Bool.not_eq_true, inB_iff, h.done]
  exact fun hm => hy (List.mem_of_mem_take hm)
theorem isT_once {l : List Op3} {k : Nat} {s : Kst} {q : Crs} (h : CFit s q) (hK : KOk l k s) {a b : Int} (ha : a ∈ s.done) (hb : b ∈ s.done) (hab : a ≠ b) : isT q a b = onceK (s.of a) (s.of b) := by
  have ea := (hK.comm a ha).2.2.2.1
  have eb := (hK.comm b hb).2.2.2.1
  unfold isT onceK
  rw [take_ended h (hK.comm b hb).1 ha (fun e => hab e.symm), take_ended h (hK.comm a ha).1 hb hab, decide_eq_false (show ¬ (s.of b).ended < 0 by omega), decide_eq_false (show ¬ (s.of a).ended < 0 by omega), Bool.false_or, Bool.false_or, Bool.and_comm]
/-- Two of a list of which something is so. -/
def pairsG (is : Int → Int → Bool) : List Int → List Edge2
  | [] => []
  | x :: r => ((r.filter (is x)).map fun y => (x, y)) ++ pairsG is r
theorem mem_pairsG (is : Int → Int → Bool) : ∀ ds : List Int, ds.Pairwise (· < ·) → ∀ e, e ∈ pairsG is ds ↔ e.1 ∈ ds ∧ e.2 ∈ ds ∧ e.1 < e.2 ∧ is e.1 e.2 = true := by
  intro ds
  induction ds with
  | nil => intro _ e; simp [pairsG]
  | cons x r ih =>
    intro hp e
    obtain ⟨h1, h2⟩ := List.pairwise_cons.1 hp
    unfold pairsG
    rw [List.mem_append, ih h2 e, List.mem_map]
    constructor
    · rintro (⟨y, hy, rfl⟩ | ⟨g1, g2, g3, g4⟩)
      · obtain ⟨hy1, hy2⟩ := List.mem_filter.1 hy
        exact ⟨List.mem_cons_self, List.mem_cons_of_mem _ hy1, h1 y hy1, hy2⟩
      · exact ⟨List.mem_cons_of_mem _ g1, List.mem_cons_of_mem _ g2, g3, g4⟩
    · rintro ⟨g1, g2, g3, g4⟩
      rcases List.mem_cons.1 g1 with e1 | e1
      · rcases List.mem_cons.1 g2 with e2 | e2
        · omega
        · exact .inl ⟨e.2, List.mem_filter.2 ⟨e2, by rw [← e1]; exact g4⟩, by rw [← e1]⟩
      · rcases List.mem_cons.1 g2 with e2 | e2
        · have := h1 _ e1
          omega
        · exact .inr ⟨e1, e2, g3, g4⟩
theorem pairsG_rise (is : Int → Int → Bool) : ∀ ds : List Int, ds.Pairwise (· < ·) → Rise (pairsG is ds) := by
  intro ds
  induction ds with
  | nil => intro _; exact List.Pairwise.nil
  | cons x r ih =>
    intro hp
    obtain ⟨h1, h2⟩ := List.pairwise_cons.1 hp
    unfold pairsG Rise
    refine List.pairwise_append.2 ⟨?_, ih h2, fun a ha b hb => ?_⟩
    · rw [List.pairwise_map]
      refine (h2.sublist List.filter_sublist).imp fun {y z} hyz => ?_
      unfold ltB
      simp
      omega
    · obtain ⟨y, hy, rfl⟩ := List.mem_map.1 ha
      have := h1 _ ((mem_pairsG is r h2 b).1 hb).1
      unfold ltB
      simp
      omega
theorem sortI_rise {ds : List Int} (h : ds.Nodup) : (sortI ds).Pairwise (· < ·) :=
  ((sortI_sorted ds).and ((sortI_perm ds).nodup_iff.2 h)).imp fun {a b} hab => by omega
/-- What the program tells is chapter 12's Together. -/
theorem pairs_tog {is : Int → Int → Bool} {of : Int → Dl} {ds : List Int} (hn : ds.Nodup) (h6 : ∀ t ∈ ds, 1 ≤ t ∧ t ≤ 6) (his : ∀ a ∈ ds, ∀ b ∈ ds, a ≠ b → is a b = onceK (of a) (of b)) : pairsG is (sortI ds) = togL of ds := by
  have hm : ∀ x, x ∈ sortI ds ↔ x ∈ ds := fun x => (sortI_perm ds).mem_iff
  refine rise_eq _ _ (pairsG_rise is _ (sortI_rise hn)) (List.Pairwise.sublist List.filter_sublist allE_rise) fun e => ?_
  rw [mem_pairsG is _ (sortI_rise hn), hm, hm]
  unfold togL togB
  rw [List.mem_filter, Bool.and_eq_true, Bool.and_eq_true, Bool.and_eq_true, decide_eq_true_eq, inB_mem, inB_mem]
  constructor
  · rintro ⟨h1, h2, h3, h4⟩
    exact ⟨mem_allE (h6 _ h1).1 (h6 _ h1).2 (h6 _ h2).1 (h6 _ h2).2, ⟨h1, h2⟩, h3, by rw [← his _ h1 _ h2 (by omega)]; exact h4⟩
  · rintro ⟨_, ⟨h1, h2⟩, h3, h4⟩
    exact ⟨h1, h2, h3, by rw [his _ h1 _ h2 (by omega)]; exact h4⟩
end Go.Proofs.Ytccjognnehoodag
