/-
  PROVED HERE: plain facts, with no word of the program: ways by more and more deals between, one deal behind the other (Warshall), are all ways.
  Conditions: none.
  (Of these, what the claim wants: the rest was left out.)
  PROVED HERE: plain facts, with no word of the program: deals that keep locks till they end, as chapter 9 has them (told: what is done; who is aborted), as a function on lists; how far its lists can grow, and who has no lock.
  Conditions: none.
  (Of these, what the claim wants: the rest was left out.)
-/
import Derived.Test.YtmjjiehnjghndaaGreatMgac
import Derived.Test.YtmjjiehnjghndaaGreatMgao
import Derived.Test.YtmjjiehnjghndaaGreatMgam
namespace Go.Proofs.YtmjjiehnjghndaaGreat

/-- A place of the square ahead of another one. -/
def befB (i k a b : Nat) : Bool := decide (1 ≤ a ∧ a ≤ 6 ∧ 1 ≤ b ∧ b ≤ 6 ∧ (a < i ∨ (a = i ∧ b < k)))
/-- By one deal more, as far as the loops have come. -/
def partW (W : Step7) (m i k : Nat) : Step7 := fun a b => W a b || (befB i k a b && (W a m && W m b))
def warTo (l : List Edge2) : Nat → Step7
  | 0 => stepsS l
  | n + 1 => partW (warTo l n) (n + 1) 7 1
theorem war_sound (l : List Edge2) : ∀ n i k, warTo l n i k = true → Way (stepsS l) i k := by
  intro n
  induction n with
  | zero => intro i k h; exact .one h
  | succ n ih =>
    intro i k h
    unfold warTo partW at h
    simp only [Bool.or_eq_true, Bool.and_eq_true] at h
    rcases h with h | ⟨_, h1, h2⟩
    · exact ih _ _ h
    · exact (ih _ _ h1).trans (ih _ _ h2)
theorem war_more (l : List Edge2) (n i k : Nat) (h : warTo l n i k = true) : warTo l (n + 1) i k = true := by
  unfold warTo partW
  rw [h]; rfl
theorem war_base (l : List Edge2) : ∀ n i k, stepsS l i k = true → warTo l n i k = true := by
  intro n
  induction n with
  | zero => intro i k h; exact h
  | succ n ih => intro i k h; exact war_more l n i k (ih i k h)
def Deal (i : Nat) : Prop := 1 ≤ i ∧ i ≤ 6
theorem war_step {l : List Edge2} {n i k : Nat} (hi : Deal i) (hk : Deal k) : warTo l (n + 1) i k = (warTo l n i k || (warTo l n i (n + 1) && warTo l n (n + 1) k)) := by
  show partW (warTo l n) (n + 1) 7 1 i k = _
  unfold partW
  have : befB 7 1 i k = true := by unfold befB; unfold Deal at hi hk; simp; omega
  rw [this, Bool.true_and]
theorem war_shut (l : List Edge2) : ∀ n, n ≤ 6 → ∀ j, 1 ≤ j → j ≤ n → ∀ i k, Deal i → Deal k → warTo l n i j = true → warTo l n j k = true → warTo l n i k = true := by
  intro n
  induction n with
  | zero => intro _ j h1 h2; omega
  | succ n ih =>
    intro hn j h1 h2 i k hi hk hij hjk
    have hm : Deal (n + 1) := ⟨by omega, hn⟩
    have hj : Deal j := ⟨h1, by omega⟩
    have ih' := ih (by omega)
    rw [war_step hi hj] at hij
    rw [war_step hj hk] at hjk
    rw [war_step hi hk]
    simp only [Bool.or_eq_true, Bool.and_eq_true] at hij hjk ⊢
    by_cases e : j = n + 1
    · subst e
      have a1 : warTo l n i (n + 1) = true := by rcases hij with h | h; exact h; exact h.1
      have a2 : warTo l n (n + 1) k = true := by rcases hjk with h | h; exact h; exact h.2
      exact .inr ⟨a1, a2⟩
    · have hjn : j ≤ n := by omega
      rcases hij with h | ⟨h, h'⟩
      · rcases hjk with g | ⟨g, g'⟩
        · exact .inl (ih' j h1 hjn i k hi hk h g)
        · exact .inr ⟨ih' j h1 hjn i (n + 1) hi hm h g, g'⟩
      · rcases hjk with g | ⟨g, g'⟩
        · exact .inr ⟨h, ih' j h1 hjn (n + 1) k hm hk h' g⟩
        · exact .inr ⟨h, g'⟩
theorem war_full {l : List Edge2} (hr : Right l) {i k : Nat} (h : Way (stepsS l) i k) : warTo l 6 i k = true := by
  have h2 : warTo l 6 i k = true ∧ Deal i ∧ Deal k := way_ind (R := fun i k => warTo l 6 i k = true ∧ Deal i ∧ Deal k)
    (fun x y e => ⟨war_base l 6 x y e, (steps_lt hr e).1, (steps_lt hr e).2⟩)
    (fun x y z e _ ih => ⟨war_shut l 6 (by omega) y (steps_lt hr e).2.1 (steps_lt hr e).2.2 x z (steps_lt hr e).1 ih.2.2 (war_base l 6 x y e) ih.1, (steps_lt hr e).1, ih.2.2⟩) h
  exact h2.1
theorem war_way {l : List Edge2} (hr : Right l) (i k : Nat) : warTo l 6 i k = true ↔ Way (stepsS l) i k := ⟨war_sound l 6 i k, war_full hr⟩
end Go.Proofs.YtmjjiehnjghndaaGreat

namespace Go.Proofs.YtmjjiehnjghndaaGreat

/-- How things stand while deals ask. -/
structure Runr where
  tab : Tab2
  waits : Int → Bool
  op : Int → Op3
  behind : Int → List Op3
  out : Int → Bool
  told : List Op3
  vict : List Int
def setF {α : Type} (f : Int → α) (t : Int) (x : α) : Int → α := fun j => if j = t then x else f j
theorem setF_same {α : Type} (f : Int → α) (t : Int) (x : α) : setF f t x t = x := if_pos rfl
theorem setF_other {α : Type} (f : Int → α) {t d : Int} (x : α) (h : d ≠ t) : setF f t x d = f d := if_neg h
def run0 : Runr := ⟨([], []), fun _ => false, fun _ => (0, 0, 0), fun _ => [], fun _ => false, [], []⟩
/-- For whom a deal waits. -/
def whomR (s : Tab2) (t : Int) : List Int := match s.2.find? (fun y => y.1 == t) with | none => [] | some x => forT s x
/-- Who waits for whom, as edges. -/
def edgesR (s : Tab2) : List Edge2 := (List.range 6).flatMap fun (d : Nat) => (whomR s ((d : Int) + 1)).map fun x => ((d : Int) + 1, x)
/-- Does a deal wait for itself? -/
def ringR (s : Tab2) (t : Int) : Bool := warTo (edgesR s) 6 t.toNat t.toNat
def drainN (doF : Runr → Op3 → Runr) (d : Int) : Nat → Runr → Runr
  | 0, r => r
  | m + 1, r => if r.waits d = true then r else match r.behind d with | [] => r | o :: q => drainN doF d m (doF { r with behind := setF r.behind d q } o)
def grantR (doF : Runr → Op3 → Runr) (r : Runr) (x : Op3) : Runr :=
  if r.waits x.1 = true then drainN doF x.1 (r.behind x.1).length { r with waits := setF r.waits x.1 false, told := r.told ++ [r.op x.1] } else r
def freeR (doF : Runr → Op3 → Runr) (r : Runr) (t : Int) : Runr := (freeT r.tab t).2.foldl (grantR doF) { r with tab := (freeT r.tab t).1 }
def abort0 (r : Runr) (t : Int) : Runr := { r with out := setF r.out t true, vict := r.vict ++ [t], told := r.told ++ [(t, 4, 0)], waits := setF r.waits t false, behind := setF r.behind t [] }
def abortR (doF : Runr → Op3 → Runr) (r : Runr) (t : Int) : Runr := freeR doF (abort0 r t) t
/-- The least for whom a deal waits that is younger. -/
def youngR (s : Tab2) (t : Int) : Option Int := (whomR s t).find? fun x => decide (t < x)
def woundN (doF : Runr → Op3 → Runr) (t : Int) : Nat → Runr → Runr
  | 0, r => r
  | n + 1, r => match youngR r.tab t with | none => r | some v => woundN doF t n (abortR doF r v)
def wait0 (r : Runr) (o : Op3) : Runr := { r with tab := (askT r.tab (o.1, o.2.2, o.2.1)).2, waits := setF r.waits o.1 true, op := setF r.op o.1 o }
def wayR (way : Int) (doF : Runr → Op3 → Runr) (r : Runr) (t : Int) : Runr :=
  if way = 0 then (if ringR r.tab t = true then abortR doF r t else r)
  else if way = 1 then (match whomR r.tab t with | [] => r | x :: _ => if x < t then abortR doF r t else r)
  else woundN doF t 7 r
def doW (way : Int) (doF : Runr → Op3 → Runr) (r : Runr) (o : Op3) : Runr :=
  if 3 ≤ o.2.1 then freeR doF { r with told := r.told ++ [o] } o.1
  else if (askT r.tab (o.1, o.2.2, o.2.1)).1.1 = true then { r with tab := (askT r.tab (o.1, o.2.2, o.2.1)).2, told := r.told ++ [o] }
  else wayR way doF (wait0 r o) o.1
def doN (way : Int) : Nat → Runr → Op3 → Runr
  | 0 => fun r _ => r
  | n + 1 => doW way (doN way n)
/-- An op comes. -/
def comeR (way : Int) (r : Runr) (o : Op3) : Runr :=
  if r.out o.1 = true then r else if r.waits o.1 = true then { r with behind := setF r.behind o.1 (r.behind o.1 ++ [o]) } else doN way 41 r o
def strictR (way : Int) (l : List Op3) : Runr := l.foldl (comeR way) run0

/-- How many deals are so. -/
def cnt6 (f : Int → Bool) : Nat := (f 1).toNat + (f 2).toNat + (f 3).toNat + (f 4).toNat + (f 5).toNat + (f 6).toNat
def sum6 (f : Int → List Op3) : Nat := (f 1).length + (f 2).length + (f 3).length + (f 4).length + (f 5).length + (f 6).length
theorem six {d : Int} (h1 : 1 ≤ d) (h6 : d ≤ 6) : d = 1 ∨ d = 2 ∨ d = 3 ∨ d = 4 ∨ d = 5 ∨ d = 6 := by omega
theorem cnt_false {f : Int → Bool} {d : Int} : cnt6 (setF f d false) ≤ cnt6 f := by
  have h : ∀ j : Int, (setF f d false j).toNat ≤ (f j).toNat := fun j => by unfold setF; split <;> simp
  have := h 1; have := h 2; have := h 3; have := h 4; have := h 5; have := h 6
  unfold cnt6
  omega
theorem cnt_drop {f : Int → Bool} {d : Int} (h1 : 1 ≤ d) (h6 : d ≤ 6) (h : f d = true) : cnt6 (setF f d false) + 1 = cnt6 f := by
  rcases six h1 h6 with rfl | rfl | rfl | rfl | rfl | rfl <;> simp [cnt6, setF, h] <;> omega
theorem cnt_mono {f g : Int → Bool} (h : ∀ d, f d = true → g d = true) : cnt6 f ≤ cnt6 g := by
  have h' : ∀ j : Int, (f j).toNat ≤ (g j).toNat := fun j => by
    cases hf : f j with
    | false => simp
    | true => rw [h j hf]; simp
  have := h' 1; have := h' 2; have := h' 3; have := h' 4; have := h' 5; have := h' 6
  unfold cnt6
  omega
theorem sum_mono {f g : Int → List Op3} (h : ∀ d, (f d).length ≤ (g d).length) : sum6 f ≤ sum6 g := by
  have := h 1; have := h 2; have := h 3; have := h 4; have := h 5; have := h 6
  unfold sum6
  omega
theorem sum_pop {f : Int → List Op3} {d : Int} {o : Op3} {q : List Op3} (h1 : 1 ≤ d) (h6 : d ≤ 6) (h : f d = o :: q) : sum6 (setF f d q) + 1 = sum6 f := by
  rcases six h1 h6 with rfl | rfl | rfl | rfl | rfl | rfl <;> simp [sum6, setF, h] <;> omega
theorem sum_push {f : Int → List Op3} {d : Int} (o : Op3) (h1 : 1 ≤ d) (h6 : d ≤ 6) : sum6 (setF f d (f d ++ [o])) = sum6 f + 1 := by
  rcases six h1 h6 with rfl | rfl | rfl | rfl | rfl | rfl <;> simp [sum6, setF] <;> omega
theorem sum_le {f : Int → List Op3} {d : Int} (h1 : 1 ≤ d) (h6 : d ≤ 6) : (f d).length ≤ sum6 f := by
  rcases six h1 h6 with rfl | rfl | rfl | rfl | rfl | rfl <;> simp [sum6] <;> omega
/-- What all of it comes to: what is told, what stands behind, who waits, who is not aborted. -/
def pot (r : Runr) : Nat := r.told.length + sum6 r.behind + cnt6 r.waits + cnt6 fun d => !r.out d
/-- What is always so. -/
structure Good (r : Runr) : Prop where
  t1 : ∀ x ∈ r.tab.1, r.out x.1 = false ∧ 1 ≤ x.1 ∧ x.1 ≤ 6
  t2 : ∀ x ∈ r.tab.2, r.out x.1 = false ∧ 1 ≤ x.1 ∧ x.1 ≤ 6
  gone : ∀ d, r.out d = true → r.behind d = []
  ops : ∀ d, ∀ o ∈ r.behind d, o.1 = d ∧ isOpB o = true
  size : r.tab.1.length + r.tab.2.length ≤ r.told.length + cnt6 r.waits
  vict : r.vict.length + (cnt6 fun d => !r.out d) ≤ 6
  wait : ∀ d, r.waits d = true → 1 ≤ d ∧ d ≤ 6
theorem good0 : Good run0 := ⟨fun x h => (by cases h), fun x h => (by cases h), fun d h => (by cases h), fun d o h => (by cases h), by decide, by decide, fun d h => (by cases h)⟩
/-- From one to the other. -/
structure Step (r r' : Runr) (c : Nat) : Prop where
  good : Good r'
  less : ∀ d, (r'.behind d).length ≤ (r.behind d).length
  outs : ∀ d, r.out d = true → r'.out d = true
  pots : pot r' ≤ pot r + c
theorem Step.refl {r : Runr} (h : Good r) : Step r r 0 := ⟨h, fun _ => Nat.le_refl _, fun _ h => h, Nat.le_refl _⟩
theorem Step.trans {r s u : Runr} {a b c : Nat} (h : Step r s a) (k : Step s u b) (hc : a + b ≤ c) : Step r u c :=
  ⟨k.good, fun d => Nat.le_trans (k.less d) (h.less d), fun d hd => k.outs d (h.outs d hd), by have := h.pots; have := k.pots; omega⟩
theorem Step.mono {r s : Runr} {a b : Nat} (h : Step r s a) (hab : a ≤ b) : Step r s b := ⟨h.good, h.less, h.outs, by have := h.pots; omega⟩
def DoOk (doF : Runr → Op3 → Runr) : Prop := ∀ r o, Good r → r.out o.1 = false → r.waits o.1 = false → isOpB o = true → Step r (doF r o) 1
theorem isOp_range {o : Op3} (h : isOpB o = true) : 1 ≤ o.1 ∧ o.1 ≤ 6 := by
  simp [isOpB] at h
  omega
theorem mem_putL {l : List Int} {n x : Int} (h : x ∈ putL l n) : x = n ∨ x ∈ l := by
  induction l with
  | nil => simp [putL] at h; exact .inl h
  | cons y r ih =>
    unfold putL at h
    split at h
    · exact .inr h
    · split at h
      · rcases List.mem_cons.1 h with h | h
        · exact .inl h
        · exact .inr h
      · rcases List.mem_cons.1 h with h | h
        · exact .inr (h ▸ List.mem_cons_self)
        · rcases ih h with h | h
          · exact .inl h
          · exact .inr (List.mem_cons_of_mem _ h)
theorem mem_putsO {l : List Op3} {x : Int} : ∀ {o : List Int}, x ∈ putsO o l → x ∈ o ∨ ∃ y ∈ l, y.1 = x := by
  induction l with
  | nil => intro o h; exact .inl h
  | cons z r ih =>
    intro o h
    rcases ih (o := putL o z.1) h with h | ⟨y, hy, he⟩
    · rcases mem_putL h with h | h
      · exact .inr ⟨z, List.mem_cons_self, h.symm⟩
      · exact .inl h
    · exact .inr ⟨y, List.mem_cons_of_mem _ hy, he⟩
/-- For whom one waits has a lock, or waits for one. -/
theorem mem_whom {s : Tab2} {t x : Int} (h : x ∈ whomR s t) : (∃ y ∈ s.1, y.1 = x) ∨ ∃ y ∈ s.2, y.1 = x := by
  unfold whomR at h
  split at h
  · cases h
  · unfold forT at h
    rcases mem_putsO h with h | ⟨y, hy, he⟩
    · rcases mem_putsO h with h | ⟨y, hy, he⟩
      · cases h
      · exact .inl ⟨y, (List.mem_filter.1 hy).1, he⟩
    · exact .inr ⟨y, (List.takeWhile_subset _) (List.mem_filter.1 hy).1, he⟩
theorem mem_grants {l : List Op3} {x : Op3} : ∀ {s : Tab2 × List Op3}, (x ∈ (grants s l).1.1 → x ∈ s.1.1 ∨ x ∈ l) ∧ (x ∈ (grants s l).1.2 → x ∈ s.1.2 ∨ x ∈ l) ∧ (x ∈ (grants s l).2 → x ∈ s.2 ∨ x ∈ l) := by
  induction l with
  | nil => intro s; exact ⟨.inl, .inl, .inl⟩
  | cons y r ih =>
    intro s
    have h := ih (s := grant s y)
    have hg : (x ∈ (grant s y).1.1 → x ∈ s.1.1 ∨ x = y) ∧ (x ∈ (grant s y).1.2 → x ∈ s.1.2 ∨ x = y) ∧ (x ∈ (grant s y).2 → x ∈ s.2 ∨ x = y) := by
      unfold grant
      split
      · refine ⟨fun hh => ?_, fun hh => .inl hh, fun hh => ?_⟩
        · rcases mem_holdL hh with h | h
          · exact .inr h
          · exact .inl h
        · rcases List.mem_append.1 hh with h | h
          · exact .inl h
          · exact .inr (List.mem_singleton.1 h)
      · refine ⟨fun hh => .inl hh, fun hh => ?_, fun hh => .inl hh⟩
        rcases List.mem_append.1 hh with h | h
        · exact .inl h
        · exact .inr (List.mem_singleton.1 h)
    refine ⟨fun hh => ?_, fun hh => ?_, fun hh => ?_⟩
    · rcases h.1 hh with h1 | h1
      · rcases hg.1 h1 with h2 | h2
        · exact .inl h2
        · exact .inr (by simp [h2])
      · exact .inr (by simp [h1])
    · rcases h.2.1 hh with h1 | h1
      · rcases hg.2.1 h1 with h2 | h2
        · exact .inl h2
        · exact .inr (by simp [h2])
      · exact .inr (by simp [h1])
    · rcases h.2.2 hh with h1 | h1
      · rcases hg.2.2 h1 with h2 | h2
        · exact .inl h2
        · exact .inr (by simp [h2])
      · exact .inr (by simp [h1])
theorem mem_free {s : Tab2} {t : Int} {x : Op3} : (x ∈ (freeT s t).1.1 → (x ∈ s.1 ∨ x ∈ s.2) ∧ x.1 ≠ t) ∧ (x ∈ (freeT s t).1.2 → x ∈ s.2 ∧ x.1 ≠ t) ∧ (x ∈ (freeT s t).2 → x ∈ s.2 ∧ x.1 ≠ t) := by
  have h := mem_grants (l := withoutL s.2 t) (x := x) (s := ((withoutL s.1 t, []), []))
  have hw : ∀ l : List Op3, x ∈ withoutL l t → x ∈ l ∧ x.1 ≠ t := fun l hl => ⟨(List.mem_filter.1 hl).1, by simpa using (List.mem_filter.1 hl).2⟩
  unfold freeT
  refine ⟨fun hh => ?_, fun hh => ?_, fun hh => ?_⟩
  · rcases h.1 hh with h1 | h1
    · exact ⟨.inl (hw _ h1).1, (hw _ h1).2⟩
    · exact ⟨.inr (hw _ h1).1, (hw _ h1).2⟩
  · rcases h.2.1 hh with h1 | h1
    · cases h1
    · exact hw _ h1
  · rcases h.2.2 hh with h1 | h1
    · cases h1
    · exact hw _ h1
theorem mem_ask {s : Tab2} {y x : Op3} : (x ∈ (askT s y).2.1 → x ∈ s.1 ∨ x = y) ∧ (x ∈ (askT s y).2.2 → x ∈ s.2 ∨ x = y) := by
  unfold askT
  split
  · exact ⟨.inl, .inl⟩
  · split
    · exact ⟨.inl, .inl⟩
    · split
      · exact ⟨.inl, .inl⟩
      · split
        · refine ⟨fun hh => ?_, .inl⟩
          rcases mem_holdL hh with h | h
          · exact .inr h
          · exact .inl h
        · refine ⟨.inl, fun hh => ?_⟩
          rcases List.mem_append.1 hh with h | h
          · exact .inl h
          · exact .inr (List.mem_singleton.1 h)

theorem drain_ok {doF : Runr → Op3 → Runr} (hF : DoOk doF) (d : Int) : ∀ (m : Nat) (r : Runr), Good r → 1 ≤ d → d ≤ 6 → Step r (drainN doF d m r) 0 := by
  intro m
  induction m with
  | zero => intro r h _ _; exact Step.refl h
  | succ m ih =>
    intro r h h1 h6
    unfold drainN
    split
    · exact Step.refl h
    · rename_i hwd
      split
      · exact Step.refl h
      · rename_i o q hb
        have ho := h.ops d o (by rw [hb]; exact List.mem_cons_self)
        have hout : r.out d = false := by
          cases he : r.out d with
          | false => rfl
          | true => rw [h.gone d he] at hb; cases hb
        have hs : Step r { r with behind := setF r.behind d q } 0 := by
          refine ⟨⟨h.t1, h.t2, fun e he => ?_, fun e p hp => ?_, h.size, h.vict, h.wait⟩, fun e => ?_, fun _ he => he, ?_⟩
          · show setF r.behind d q e = []
            unfold setF
            split
            · rename_i hed
              subst hed
              rw [hout] at he
              cases he
            · exact h.gone e he
          · have hp' : p ∈ setF r.behind d q e := hp
            unfold setF at hp'
            split at hp'
            · rename_i hed
              subst hed
              exact h.ops e p (by rw [hb]; exact List.mem_cons_of_mem _ hp')
            · exact h.ops e p hp'
          · show (setF r.behind d q e).length ≤ _
            unfold setF
            split
            · rename_i hed
              subst hed
              rw [hb]
              simp
            · exact Nat.le_refl _
          · have := sum_pop h1 h6 hb
            unfold pot
            dsimp only
            omega
        have hs1 : Step r (doF { r with behind := setF r.behind d q } o) 0 := by
          have h2 := hF { r with behind := setF r.behind d q } o hs.good (by rw [ho.1]; exact hout) (by rw [ho.1]; simpa using hwd) ho.2
          refine ⟨h2.good, fun e => Nat.le_trans (h2.less e) (hs.less e), fun e he => h2.outs e he, ?_⟩
          have h3 := h2.pots
          have h4 := sum_pop h1 h6 hb
          have h5 : pot { r with behind := setF r.behind d q } + 1 = pot r := by
            unfold pot
            dsimp only
            omega
          omega
        exact hs1.trans (ih _ hs1.good h1 h6) (Nat.le_refl _)
theorem grant_ok {doF : Runr → Op3 → Runr} (hF : DoOk doF) (x : Op3) (r : Runr) (h : Good r) : Step r (grantR doF r x) 0 := by
  unfold grantR
  split
  · rename_i hw
    obtain ⟨h1, h6⟩ := h.wait _ hw
    have hc := cnt_drop h1 h6 hw
    have hs : Step r { r with waits := setF r.waits x.1 false, told := r.told ++ [r.op x.1] } 0 := by
      refine ⟨⟨h.t1, h.t2, h.gone, h.ops, ?_, h.vict, fun d hd => ?_⟩, fun _ => Nat.le_refl _, fun _ he => he, ?_⟩
      · have := h.size
        dsimp only
        rw [List.length_append, List.length_singleton]
        omega
      · have hd' : setF r.waits x.1 false d = true := hd
        unfold setF at hd'
        split at hd'
        · cases hd'
        · exact h.wait d hd'
      · unfold pot
        dsimp only
        rw [List.length_append, List.length_singleton]
        omega
    exact hs.trans (drain_ok hF x.1 _ _ hs.good h1 h6) (Nat.le_refl _)
  · exact Step.refl h
theorem grants_ok {doF : Runr → Op3 → Runr} (hF : DoOk doF) (l : List Op3) : ∀ r : Runr, Good r → Step r (l.foldl (grantR doF) r) 0 := by
  induction l with
  | nil => intro r h; exact Step.refl h
  | cons x q ih =>
    intro r h
    rw [List.foldl_cons]
    have h1 := grant_ok hF x r h
    exact h1.trans (ih _ h1.good) (Nat.le_refl _)
theorem free_good {r : Runr} (h : Good r) (t : Int) : Good { r with tab := (freeT r.tab t).1 } := by
  refine ⟨fun x hx => ?_, fun x hx => ?_, h.gone, h.ops, ?_, h.vict, h.wait⟩
  · rcases (mem_free.1 hx).1 with h1 | h1
    · exact h.t1 x h1
    · exact h.t2 x h1
  · exact h.t2 x (mem_free.2.1 hx).1
  · have := free_sum r.tab t
    have := h.size
    show (freeT r.tab t).1.1.length + (freeT r.tab t).1.2.length ≤ r.told.length + cnt6 r.waits
    omega
theorem freeR_ok {doF : Runr → Op3 → Runr} (hF : DoOk doF) (t : Int) (r : Runr) (h : Good r) : Step r (freeR doF r t) 0 := by
  unfold freeR
  have hs : Step r { r with tab := (freeT r.tab t).1 } 0 := ⟨free_good h t, fun _ => Nat.le_refl _, fun _ he => he, Nat.le_refl _⟩
  exact hs.trans (grants_ok hF _ _ hs.good) (Nat.le_refl _)
/-- Of one that is aborted nothing is left when all of it is free. -/
theorem abort_good {r : Runr} {t : Int} (h : Good r) (h1 : 1 ≤ t) (h6 : t ≤ 6) (ho : r.out t = false) : Good { abort0 r t with tab := (freeT r.tab t).1 } := by
  have hc : (cnt6 fun d => !setF r.out t true d) + 1 = cnt6 fun d => !r.out d := by
    rw [← cnt_drop (f := fun d => !r.out d) h1 h6 (by simp [ho])]
    congr 2
    funext d
    unfold setF
    split <;> rfl
  refine ⟨fun x hx => ?_, fun x hx => ?_, fun d hd => ?_, fun d o hd => ?_, ?_, ?_, fun d hd => ?_⟩
  · obtain ⟨hm, hne⟩ := mem_free.1 hx
    show setF r.out t true x.1 = false ∧ _
    rw [setF_other _ _ hne]
    rcases hm with hm | hm
    · exact h.t1 x hm
    · exact h.t2 x hm
  · obtain ⟨hm, hne⟩ := mem_free.2.1 hx
    show setF r.out t true x.1 = false ∧ _
    rw [setF_other _ _ hne]
    exact h.t2 x hm
  · have hd' : setF r.out t true d = true := hd
    show setF r.behind t [] d = []
    unfold setF at hd' ⊢
    split
    · rfl
    · rename_i hne
      rw [if_neg hne] at hd'
      exact h.gone d hd'
  · have hd' : o ∈ setF r.behind t [] d := hd
    unfold setF at hd'
    split at hd'
    · cases hd'
    · exact h.ops d o hd'
  · have h2 := free_sum r.tab t
    have h3 := h.size
    have h4 : cnt6 r.waits ≤ cnt6 (setF r.waits t false) + 1 := by
      cases hw : r.waits t with
      | true => have := cnt_drop h1 h6 hw; omega
      | false =>
        have : cnt6 r.waits ≤ cnt6 (setF r.waits t false) := cnt_mono fun d hd => by
          unfold setF
          split
          · rename_i e
            rw [e, hw] at hd
            cases hd
          · exact hd
        omega
    show (freeT r.tab t).1.1.length + (freeT r.tab t).1.2.length ≤ (r.told ++ [(t, 4, 0)]).length + cnt6 (setF r.waits t false)
    rw [List.length_append, List.length_singleton]
    omega
  · have := h.vict
    show (r.vict ++ [t]).length + (cnt6 fun d => !setF r.out t true d) ≤ 6
    rw [List.length_append, List.length_singleton]
    omega
  · have hd' : setF r.waits t false d = true := hd
    unfold setF at hd'
    split at hd'
    · cases hd'
    · exact h.wait d hd'
theorem abort_ok {doF : Runr → Op3 → Runr} (hF : DoOk doF) {t : Int} {r : Runr} (h : Good r) (h1 : 1 ≤ t) (h6 : t ≤ 6) (ho : r.out t = false) : Step r (abortR doF r t) 0 ∧ (abortR doF r t).out t = true := by
  have hg := abort_good h h1 h6 ho
  have hc : (cnt6 fun d => !setF r.out t true d) + 1 = cnt6 fun d => !r.out d := by
    rw [← cnt_drop (f := fun d => !r.out d) h1 h6 (by simp [ho])]
    congr 2
    funext d
    unfold setF
    split <;> rfl
  have hs : Step r { abort0 r t with tab := (freeT r.tab t).1 } 0 := by
    refine ⟨hg, fun d => ?_, fun d hd => ?_, ?_⟩
    · show (setF r.behind t [] d).length ≤ _
      unfold setF
      split
      · simp
      · exact Nat.le_refl _
    · show setF r.out t true d = true
      unfold setF
      split
      · rfl
      · exact hd
    · have h2 : sum6 (setF r.behind t []) ≤ sum6 r.behind := sum_mono fun d => by
        unfold setF
        split
        · simp
        · exact Nat.le_refl _
      have h3 := cnt_false (f := r.waits) (d := t)
      unfold pot
      unfold abort0
      dsimp only
      rw [List.length_append, List.length_singleton]
      omega
  have hk := grants_ok hF (freeT r.tab t).2 _ hg
  refine ⟨hs.trans hk (Nat.le_refl _), hk.outs t ?_⟩
  show setF r.out t true t = true
  exact setF_same _ _ _
theorem young_mem {s : Tab2} {t v : Int} (h : youngR s t = some v) : v ∈ whomR s t ∧ t < v := by
  unfold youngR at h
  exact ⟨List.mem_of_find?_eq_some h, by simpa using List.find?_some h⟩
theorem whom_deal {r : Runr} (h : Good r) {t v : Int} (hv : v ∈ whomR r.tab t) : r.out v = false ∧ 1 ≤ v ∧ v ≤ 6 := by
  rcases mem_whom hv with ⟨y, hy, rfl⟩ | ⟨y, hy, rfl⟩
  · exact h.t1 y hy
  · exact h.t2 y hy
theorem wound_ok {doF : Runr → Op3 → Runr} (hF : DoOk doF) (t : Int) : ∀ (n : Nat) (r : Runr), Good r → Step r (woundN doF t n r) 0 := by
  intro n
  induction n with
  | zero => intro r h; exact Step.refl h
  | succ n ih =>
    intro r h
    unfold woundN
    split
    · exact Step.refl h
    · rename_i v hv
      obtain ⟨ho, h1, h6⟩ := whom_deal h (young_mem hv).1
      have hs := (abort_ok hF h h1 h6 ho).1
      exact hs.trans (ih _ hs.good) (Nat.le_refl _)
theorem way_ok {doF : Runr → Op3 → Runr} (hF : DoOk doF) (way t : Int) (r : Runr) (h : Good r) (h1 : 1 ≤ t) (h6 : t ≤ 6) (ho : r.out t = false) : Step r (wayR way doF r t) 0 := by
  unfold wayR
  split
  · split
    · exact (abort_ok hF h h1 h6 ho).1
    · exact Step.refl h
  · split
    · split
      · exact Step.refl h
      · split
        · exact (abort_ok hF h h1 h6 ho).1
        · exact Step.refl h
    · exact wound_ok hF t 7 r h
theorem doW_ok {doF : Runr → Op3 → Runr} (hF : DoOk doF) (way : Int) : DoOk (doW way doF) := by
  intro r o h ho hnw hop
  obtain ⟨h1, h6⟩ := isOp_range hop
  unfold doW
  split
  · have hs : Step r { r with told := r.told ++ [o] } 1 := by
      refine ⟨⟨h.t1, h.t2, h.gone, h.ops, ?_, h.vict, h.wait⟩, fun _ => Nat.le_refl _, fun _ he => he, ?_⟩
      · have := h.size
        dsimp only
        rw [List.length_append]
        omega
      · unfold pot
        dsimp only
        rw [List.length_append, List.length_singleton]
        omega
    exact hs.trans (freeR_ok hF o.1 _ hs.good) (Nat.le_refl _)
  · have hsum := ask_sum r.tab (o.1, o.2.2, o.2.1)
    have hm1 : ∀ x ∈ (askT r.tab (o.1, o.2.2, o.2.1)).2.1, r.out x.1 = false ∧ 1 ≤ x.1 ∧ x.1 ≤ 6 := fun x hx => by
      rcases mem_ask.1 hx with h2 | h2
      · exact h.t1 x h2
      · rw [h2]; exact ⟨ho, h1, h6⟩
    have hm2 : ∀ x ∈ (askT r.tab (o.1, o.2.2, o.2.1)).2.2, r.out x.1 = false ∧ 1 ≤ x.1 ∧ x.1 ≤ 6 := fun x hx => by
      rcases mem_ask.2 hx with h2 | h2
      · exact h.t2 x h2
      · rw [h2]; exact ⟨ho, h1, h6⟩
    split
    · refine ⟨⟨hm1, hm2, h.gone, h.ops, ?_, h.vict, h.wait⟩, fun _ => Nat.le_refl _, fun _ he => he, ?_⟩
      · have := h.size
        dsimp only at hsum ⊢
        rw [List.length_append, List.length_singleton]
        omega
      · unfold pot
        dsimp only
        rw [List.length_append, List.length_singleton]
        omega
    · have hcw : cnt6 (setF r.waits o.1 true) = cnt6 r.waits + 1 := by
        have h2 := cnt_drop (f := setF r.waits o.1 true) h1 h6 (setF_same _ _ _)
        have h3 : setF (setF r.waits o.1 true) o.1 false = r.waits := by
          funext d
          unfold setF
          split
          · rename_i e; rw [e, hnw]
          · rfl
        rw [h3] at h2
        omega
      have hw : Good (wait0 r o) := by
        refine ⟨hm1, hm2, h.gone, h.ops, ?_, h.vict, fun d hd => ?_⟩
        · have h2 := h.size
          unfold wait0
          dsimp only at hsum ⊢
          omega
        · have hd' : setF r.waits o.1 true d = true := hd
          unfold setF at hd'
          split at hd'
          · rename_i e; rw [e]; exact ⟨h1, h6⟩
          · exact h.wait d hd'
      have hs : Step r (wait0 r o) 1 := by
        refine ⟨hw, fun _ => Nat.le_refl _, fun _ he => he, ?_⟩
        unfold pot wait0
        dsimp only
        omega
      exact hs.trans (way_ok hF way o.1 _ hw h1 h6 ho) (Nat.le_refl _)
/-- By the number of calls that may still come. -/
theorem doN_ok (way : Int) : ∀ n, DoOk (doN way n) := by
  intro n
  induction n with
  | zero => intro r o h _ _ _; exact (Step.refl h).mono (by omega)
  | succ n ih => exact doW_ok ih way
/-- Op by op. -/
theorem come_ok (way : Int) (r : Runr) (o : Op3) (h : Good r) (hop : isOpB o = true) : Good (comeR way r o) ∧ pot (comeR way r o) ≤ pot r + 1 := by
  obtain ⟨h1, h6⟩ := isOp_range hop
  unfold comeR
  split
  · exact ⟨h, by omega⟩
  · rename_i ho
    have ho' : r.out o.1 = false := by simpa using ho
    split
    · refine ⟨⟨h.t1, h.t2, fun d hd => ?_, fun d p hp => ?_, h.size, h.vict, h.wait⟩, ?_⟩
      · show setF r.behind o.1 _ d = []
        have hd' : r.out d = true := hd
        rw [setF_other _ _ (fun e => by rw [e, ho'] at hd'; cases hd')]
        exact h.gone d hd
      · have hp' : p ∈ setF r.behind o.1 (r.behind o.1 ++ [o]) d := hp
        unfold setF at hp'
        split at hp'
        · rename_i e
          subst e
          rcases List.mem_append.1 hp' with hp' | hp'
          · exact h.ops _ p hp'
          · rw [List.mem_singleton.1 hp']; exact ⟨rfl, hop⟩
        · exact h.ops d p hp'
      · have := sum_push (f := r.behind) o h1 h6
        unfold pot
        dsimp only
        omega
    · rename_i hw
      have hs := doN_ok way 41 r o h ho' (by simpa using hw) hop
      exact ⟨hs.good, hs.pots⟩
theorem strict_ok (way : Int) (l : List Op3) (hop : ∀ o ∈ l, isOpB o = true) : ∀ k, k ≤ l.length → Good (strictR way (l.take k)) ∧ pot (strictR way (l.take k)) ≤ k + 6 := by
  intro k
  induction k with
  | zero => intro _; exact ⟨good0, show pot run0 ≤ 0 + 6 by decide⟩
  | succ k ih =>
    intro hk
    have h1 := ih (by omega)
    have e : strictR way (l.take (k + 1)) = comeR way (strictR way (l.take k)) l[k] := by
      unfold strictR
      rw [List.take_succ_eq_append_getElem (by omega), List.foldl_append]
      rfl
    have h2 := come_ok way _ l[k] h1.1 (hop _ (List.getElem_mem _))
    rw [e]
    exact ⟨h2.1, by omega⟩
end Go.Proofs.YtmjjiehnjghndaaGreat
