/-
  PROVED HERE: plain facts, with no word of the program: deals that keep locks till they end, as chapter 9 has them (told: what is done; who is aborted), as a function on lists; how far its lists can grow, and who has no lock.
  Conditions: none.
  PROVED HERE: plain facts, with no word of the program: ops by numbers, as chapter 10 has them, as a function on lists; what is told is right if what was asked is, of two that are at odds the first one is of the lesser number, and who is aborted ends so.
  Conditions: none.
-/
import Derived.Test.YtccjognnehoodafDoorMgai
import Derived.Test.YtccjognnehoodafDoorMgan
import Derived.Test.YtccjognnehoodafDoorMgag
import Derived.Test.YtccjognnehoodafDoorMgah
namespace Go.Proofs.YtccjognnehoodafDoor

/-- How things stand while deals ask. -/
structure Runr where
  tab : Tab2
  waits : Int → Bool
  op : Int → Op3
  behind : Int → List Op3
  out : Int → Bool
  told : List Op3
  vict : List Int
def setF {α : Type} (f : Int → α) (t : Int) (x : α) : Int → α := fun j => if j = t then x else f j
theorem setF_same {α : Type} (f : Int → α) (t : Int) (x : α) : setF f t x t = x := if_pos rfl
theorem setF_other {α : Type} (f : Int → α) {t d : Int} (x : α) (h : d ≠ t) : setF f t x d = f d := if_neg h
def run0 : Runr := ⟨([], []), fun _ => false, fun _ => (0, 0, 0), fun _ => [], fun _ => false, [], []⟩
/-- For whom a deal waits. -/
def whomR (s : Tab2) (t : Int) : List Int := match s.2.find? (fun y => y.1 == t) with | none => [] | some x => forT s x
/-- Who waits for whom, as edges. -/
def edgesR (s : Tab2) : List Edge2 := (List.range 6).flatMap fun (d : Nat) => (whomR s ((d : Int) + 1)).map fun x => ((d : Int) + 1, x)
/-- Does a deal wait for itself? -/
def ringR (s : Tab2) (t : Int) : Bool := warTo (edgesR s) 6 t.toNat t.toNat
def drainN (doF : Runr → Op3 → Runr) (d : Int) : Nat → Runr → Runr
  | 0, r => r
  | m + 1, r => if r.waits d = true then r else match r.behind d with | [] => r | o :: q => drainN doF d m (doF { r with behind := setF r.behind d q } o)
def grantR (doF : Runr → Op3 → Runr) (r : Runr) (x : Op3) : Runr :=
  if r.waits x.1 = true then drainN doF x.1 (r.behind x.1).length { r with waits := setF r.waits x.1 false, told := r.told ++ [r.op x.1] } else r
def freeR (doF : Runr → Op3 → Runr) (r : Runr) (t : Int) : Runr := (freeT r.tab t).2.foldl (grantR doF) { r with tab := (freeT r.tab t).1 }
def abort0 (r : Runr) (t : Int) : Runr := { r with out := setF r.out t true, vict := r.vict ++ [t], told := r.told ++ [(t, 4, 0)], waits := setF r.waits t false, behind := setF r.behind t [] }
def abortR (doF : Runr → Op3 → Runr) (r : Runr) (t : Int) : Runr := freeR doF (abort0 r t) t
/-- The least for whom a deal waits that is younger. -/
def youngR (s : Tab2) (t : Int) : Option Int := (whomR s t).find? fun x => decide (t < x)
def woundN (doF : Runr → Op3 → Runr) (t : Int) : Nat → Runr → Runr
  | 0, r => r
  | n + 1, r => match youngR r.tab t with | none => r | some v => woundN doF t n (abortR doF r v)
def wait0 (r : Runr) (o : Op3) : Runr := { r with tab := (askT r.tab (o.1, o.2.2, o.2.1)).2, waits := setF r.waits o.1 true, op := setF r.op o.1 o }
def wayR (way : Int) (doF : Runr → Op3 → Runr) (r : Runr) (t : Int) : Runr :=
  if way = 0 then (if ringR r.tab t = true then abortR doF r t else r)
  else if way = 1 then (match whomR r.tab t with | [] => r | x :: _ => if x < t then abortR doF r t else r)
  else woundN doF t 7 r
def doW (way : Int) (doF : Runr → Op3 → Runr) (r : Runr) (o : Op3) : Runr :=
  if 3 ≤ o.2.1 then freeR doF { r with told := r.told ++ [o] } o.1
  else if (askT r.tab (o.1, o.2.2, o.2.1)).1.1 = true then { r with tab := (askT r.tab (o.1, o.2.2, o.2.1)).2, told := r.told ++ [o] }
  else wayR way doF (wait0 r o) o.1
def doN (way : Int) : Nat → Runr → Op3 → Runr
  | 0 => fun r _ => r
  | n + 1 => doW way (doN way n)
/-- An op comes. -/
def comeR (way : Int) (r : Runr) (o : Op3) : Runr :=
  if r.out o.1 = true then r else if r.waits o.1 = true then { r with behind := setF r.behind o.1 (r.behind o.1 ++ [o]) } else doN way 41 r o
def strictR (way : Int) (l : List Op3) : Runr := l.foldl (comeR way) run0

/-- How many deals are so. -/
def cnt6 (f : Int → Bool) : Nat := (f 1).toNat + (f 2).toNat + (f 3).toNat + (f 4).toNat + (f 5).toNat + (f 6).toNat
def sum6 (f : Int → List Op3) : Nat := (f 1).length + (f 2).length + (f 3).length + (f 4).length + (f 5).length + (f 6).length
theorem six {d : Int} (h1 : 1 ≤ d) (h6 : d ≤ 6) : d = 1 ∨ d = 2 ∨ d = 3 ∨ d = 4 ∨ d = 5 ∨ d = 6 := by omega
theorem cnt_true {f : Int → Bool} {d : Int} (h1 : 1 ≤ d) (h6 : d ≤ 6) : cnt6 (setF f d true) ≤ cnt6 f + 1 := by
  rcases six h1 h6 with rfl | rfl | rfl | rfl | rfl | rfl <;> simp [cnt6, setF] <;> omega
theorem cnt_false {f : Int → Bool} {d : Int} : cnt6 (setF f d false) ≤ cnt6 f := by
  have h : ∀ j : Int, (setF f d false j).toNat ≤ (f j).toNat := fun j => by unfold setF; split <;> simp
  have := h 1; have := h 2; have := h 3; have := h 4; have := h 5; have := h 6
  unfold cnt6
  omega
theorem cnt_drop {f : Int → Bool} {d : Int} (h1 : 1 ≤ d) (h6 : d ≤ 6) (h : f d = true) : cnt6 (setF f d false) + 1 = cnt6 f := by
  rcases six h1 h6 with rfl | rfl | rfl | rfl | rfl | rfl <;> simp [cnt6, setF, h] <;> omega
theorem cnt_mono {f g : Int → Bool} (h : ∀ d, f d = true → g d = true) : cnt6 f ≤ cnt6 g := by
  have h' : ∀ j : Int, (f j).toNat ≤ (g j).toNat := fun j => by
    cases hf : f j with
    | false => simp
    | true => rw [h j hf]; simp
  have := h' 1; have := h' 2; have := h' 3; have := h' 4; have := h' 5; have := h' 6
  unfold cnt6
  omega
theorem sum_mono {f g : Int → List Op3} (h : ∀ d, (f d).length ≤ (g d).length) : sum6 f ≤ sum6 g := by
  have := h 1; have := h 2; have := h 3; have := h 4; have := h 5; have := h 6
  unfold sum6
  omega
theorem sum_pop {f : Int → List Op3} {d : Int} {o : Op3} {q : List Op3} (h1 : 1 ≤ d) (h6 : d ≤ 6) (h : f d = o :: q) : sum6 (setF f d q) + 1 = sum6 f := by
  rcases six h1 h6 with rfl | rfl | rfl | rfl | rfl | rfl <;> simp [sum6, setF, h] <;> omega
theorem sum_push {f : Int → List Op3} {d : Int} (o : Op3) (h1 : 1 ≤ d) (h6 : d ≤ 6) : sum6 (setF f d (f d ++ [o])) = sum6 f + 1 := by
  rcases six h1 h6 with rfl | rfl | rfl | rfl | rfl | rfl <;> simp [sum6, setF] <;> omega
theorem sum_le {f : Int → List Op3} {d : Int} (h1 : 1 ≤ d) (h6 : d ≤ 6) : (f d).length ≤ sum6 f := by
  rcases six h1 h6 with rfl | rfl | rfl | rfl | rfl | rfl <;> simp [sum6] <;> omega
/-- What all of it comes to: what is told, what stands behind, who waits, who is not aborted. -/
def pot (r : Runr) : Nat := r.told.length + sum6 r.behind + cnt6 r.waits + cnt6 fun d => !r.out d
/-- What is always so. -/
structure Good (r : Runr) : Prop where
  t1 : ∀ x ∈ r.tab.1, r.out x.1 = false ∧ 1 ≤ x.1 ∧ x.1 ≤ 6
  t2 : ∀ x ∈ r.tab.2, r.out x.1 = false ∧ 1 ≤ x.1 ∧ x.1 ≤ 6
  gone : ∀ d, r.out d = true → r.behind d = []
  ops : ∀ d, ∀ o ∈ r.behind d, o.1 = d ∧ isOpB o = true
  size : r.tab.1.length + r.tab.2.length ≤ r.told.length + cnt6 r.waits
  vict : r.vict.length + (cnt6 fun d => !r.out d) ≤ 6
  wait : ∀ d, r.waits d = true → 1 ≤ d ∧ d ≤ 6
theorem good0 : Good run0 := ⟨fun x h => (by cases h), fun x h => (by cases h), fun d h => (by cases h), fun d o h => (by cases h), by decide, by decide, fun d h => (by cases h)⟩
/-- From one to the other. -/
structure Step (r r' : Runr) (c : Nat) : Prop where
  good : Good r'
  less : ∀ d, (r'.behind d).length ≤ (r.behind d).length
  outs : ∀ d, r.out d = true → r'.out d = true
  pots : pot r' ≤ pot r + c
theorem Step.refl {r : Runr} (h : Good r) : Step r r 0 := ⟨h, fun _ => Nat.le_refl _, fun _ h => h, Nat.le_refl _⟩
theorem Step.trans {r s u : Runr} {a b c : Nat} (h : Step r s a) (k : Step s u b) (hc : a + b ≤ c) : Step r u c :=
  ⟨k.good, fun d => Nat.le_trans (k.less d) (h.less d), fun d hd => k.outs d (h.outs d hd), by have := h.pots; have := k.pots; omega⟩
theorem Step.mono {r s : Runr} {a b : Nat} (h : Step r s a) (hab : a ≤ b) : Step r s b := ⟨h.good, h.less, h.outs, by have := h.pots; omega⟩
def DoOk (doF : Runr → Op3 → Runr) : Prop := ∀ r o, Good r → r.out o.1 = false → r.waits o.1 = false → isOpB o = true → Step r (doF r o) 1
theorem isOp_range {o : Op3} (h : isOpB o = true) : 1 ≤ o.1 ∧ o.1 ≤ 6 := by
  simp [isOpB] at h
  omega
theorem mem_putL {l : List Int} {n x : Int} (h : x ∈ putL l n) : x = n ∨ x ∈ l := by
  induction l with
  | nil => simp [putL] at h; exact .inl h
  | cons y r ih =>
    unfold putL at h
    split at h
    · exact .inr h
    · split at h
      · rcases List.mem_cons.1 h with h | h
        · exact .inl h
        · exact .inr h
      · rcases List.mem_cons.1 h with h | h
        · exact .inr (h ▸ List.mem_cons_self)
        · rcases ih h with h | h
          · exact .inl h
          · exact .inr (List.mem_cons_of_mem _ h)
theorem mem_putsO {l : List Op3} {x : Int} : ∀ {o : List Int}, x ∈ putsO o l → x ∈ o ∨ ∃ y ∈ l, y.1 = x := by
  induction l with
  | nil => intro o h; exact .inl h
  | cons z r ih =>
    intro o h
    rcases ih (o := putL o z.1) h with h | ⟨y, hy, he⟩
    · rcases mem_putL h with h | h
      · exact .inr ⟨z, List.mem_cons_self, h.symm⟩
      · exact .inl h
    · exact .inr ⟨y, List.mem_cons_of_mem _ hy, he⟩
/-- For whom one waits has a lock, or waits for one. -/
theorem mem_whom {s : Tab2} {t x : Int} (h : x ∈ whomR s t) : (∃ y ∈ s.1, y.1 = x) ∨ ∃ y ∈ s.2, y.1 = x := by
  unfold whomR at h
  split at h
  · cases h
  · unfold forT at h
    rcases mem_putsO h with h | ⟨y, hy, he⟩
    · rcases mem_putsO h with h | ⟨y, hy, he⟩
      · cases h
      · exact .inl ⟨y, (List.mem_filter.1 hy).1, he⟩
    · exact .inr ⟨y, (List.takeWhile_subset _) (List.mem_filter.1 hy).1, he⟩
theorem mem_grants {l : List Op3} {x : Op3} : ∀ {s : Tab2 × List Op3}, (x ∈ (grants s l).1.1 → x ∈ s.1.1 ∨ x ∈ l) ∧ (x ∈ (grants s l).1.2 → x ∈ s.1.2 ∨ x ∈ l) ∧ (x ∈ (grants s l).2 → x ∈ s.2 ∨ x ∈ l) := by
  induction l with
  | nil => intro s; exact ⟨.inl, .inl, .inl⟩
  | cons y r ih =>
    intro s
    have h := ih (s := grant s y)
    have hg : (x ∈ (grant s y).1.1 → x ∈ s.1.1 ∨ x = y) ∧ (x ∈ (grant s y).1.2 → x ∈ s.1.2 ∨ x = y) ∧ (x ∈ (grant s y).2 → x ∈ s.2 ∨ x = y) := by
      unfold grant
      split
      · refine ⟨fun hh => ?_, fun hh => .inl hh, fun hh => ?_⟩
        · rcases mem_holdL hh with h | h
          · exact .inr h
          · exact .inl h
        · rcases List.mem_append.1 hh with h | h
          · exact .inl h
          · exact .inr (List.mem_singleton.1 h)
      · refine ⟨fun hh => .inl hh, fun hh => ?_, fun hh => .inl hh⟩
        rcases List.mem_append.1 hh with h | h
        · exact .inl h
        · exact .inr (List.mem_singleton.1 h)
    refine ⟨fun hh => ?_, fun hh => ?_, fun hh => ?_⟩
    · rcases h.1 hh with h1 | h1
      · rcases hg.1 h1 with h2 | h2
        · exact .inl h2
        · exact .inr (by simp [h2])
      · exact .inr (by simp [h1])
    · rcases h.2.1 hh with h1 | h1
      · rcases hg.2.1 h1 with h2 | h2
        · exact .inl h2
        · exact .inr (by simp [h2])
      · exact .inr (by simp [h1])
    · rcases h.2.2 hh with h1 | h1
      · rcases hg.2.2 h1 with h2 | h2
        · exact .inl h2
        · exact .inr (by simp [h2])
      · exact .inr (by simp [h1])
theorem mem_free {s : Tab2} {t : Int} {x : Op3} : (x ∈ (freeT s t).1.1 → (x ∈ s.1 ∨ x ∈ s.2) ∧ x.1 ≠ t) ∧ (x ∈ (freeT s t).1.2 → x ∈ s.2 ∧ x.1 ≠ t) ∧ (x ∈ (freeT s t).2 → x ∈ s.2 ∧ x.1 ≠ t) := by
  have h := mem_grants (l := withoutL s.2 t) (x := x) (s := ((withoutL s.1 t, []), []))
  have hw : ∀ l : List Op3, x ∈ withoutL l t → x ∈ l ∧ x.1 ≠ t := fun l hl => ⟨(List.mem_filter.1 hl).1, by simpa using (List.mem_filter.1 hl).2⟩
  unfold freeT
  refine ⟨fun hh => ?_, fun hh => ?_, fun hh => ?_⟩
  · rcases h.1 hh with h1 | h1
    · exact ⟨.inl (hw _ h1).1, (hw _ h1).2⟩
    · exact ⟨.inr (hw _ h1).1, (hw _ h1).2⟩
  · rcases h.2.1 hh with h1 | h1
    · cases h1
    · exact hw _ h1
  · rcases h.2.2 hh with h1 | h1
    · cases h1
    · exact hw _ h1
theorem mem_ask {s : Tab2} {y x : Op3} : (x ∈ (askT s y).2.1 → x ∈ s.1 ∨ x = y) ∧ (x ∈ (askT s y).2.2 → x ∈ s.2 ∨ x = y) := by
  unfold askT
  split
  · exact ⟨.inl, .inl⟩
  · split
    · exact ⟨.inl, .inl⟩
    · split
      · exact ⟨.inl, .inl⟩
      · split
        · refine ⟨fun hh => ?_, .inl⟩
          rcases mem_holdL hh with h | h
          · exact .inr h
          · exact .inl h
        · refine ⟨.inl, fun hh => ?_⟩
          rcases List.mem_append.1 hh with h | h
          · exact .inl h
          · exact .inr (List.mem_singleton.1 h)

theorem drain_ok {doF : Runr → Op3 → Runr} (hF : DoOk doF) (d : Int) : ∀ (m : Nat) (r : Runr), Good r → 1 ≤ d → d ≤ 6 → Step r (drainN doF d m r) 0 := by
  intro m
  induction m with
  | zero => intro r h _ _; exact Step.refl h
  | succ m ih =>
    intro r h h1 h6
    unfold drainN
    split
    · exact Step.refl h
    · rename_i hwd
      split
      · exact Step.refl h
      · rename_i o q hb
        have ho := h.ops d o (by rw [hb]; exact List.mem_cons_self)
        have hout : r.out d = false := by
          cases he : r.out d with
          | false => rfl
          | true => rw [h.gone d he] at hb; cases hb
        have hs : Step r { r with behind := setF r.behind d q } 0 := by
          refine ⟨⟨h.t1, h.t2, fun e he => ?_, fun e p hp => ?_, h.size, h.vict, h.wait⟩, fun e => ?_, fun _ he => he, ?_⟩
          · show setF r.behind d q e = []
            unfold setF
            split
            · rename_i hed
              subst hed
              rw [hout] at he
              cases he
            · exact h.gone e he
          · have hp' : p ∈ setF r.behind d q e := hp
            unfold setF at hp'
            split at hp'
            · rename_i hed
              subst hed
              exact h.ops e p (by rw [hb]; exact List.mem_cons_of_mem _ hp')
            · exact h.ops e p hp'
          · show (setF r.behind d q e).length ≤ _
            unfold setF
            split
            · rename_i hed
              subst hed
              rw [hb]
              simp
            · exact Nat.le_refl _
          · have := sum_pop h1 h6 hb
            unfold pot
            dsimp only
            omega
        have hs1 : Step r (doF { r with behind := setF r.behind d q } o) 0 := by
          have h2 := hF { r with behind := setF r.behind d q } o hs.good (by rw [ho.1]; exact hout) (by rw [ho.1]; simpa using hwd) ho.2
          refine ⟨h2.good, fun e => Nat.le_trans (h2.less e) (hs.less e), fun e he => h2.outs e he, ?_⟩
          have h3 := h2.pots
          have h4 := sum_pop h1 h6 hb
          have h5 : pot { r with behind := setF r.behind d q } + 1 = pot r := by
            unfold pot
            dsimp only
            omega
          omega
        exact hs1.trans (ih _ hs1.good h1 h6) (Nat.le_refl _)
theorem grant_ok {doF : Runr → Op3 → Runr} (hF : DoOk doF) (x : Op3) (r : Runr) (h : Good r) : Step r (grantR doF r x) 0 := by
  unfold grantR
  split
  · rename_i hw
    obtain ⟨h1, h6⟩ := h.wait _ hw
    have hc := cnt_drop h1 h6 hw
    have hs : Step r { r with waits := setF r.waits x.1 false, told := r.told ++ [r.op x.1] } 0 := by
      refine ⟨⟨h.t1, h.t2, h.gone, h.ops, ?_, h.vict, fun d hd => ?_⟩, fun _ => Nat.le_refl _, fun _ he => he, ?_⟩
      · have := h.size
        dsimp only
        rw [List.length_append, List.length_singleton]
        omega
      · have hd' : setF r.waits x.1 false d = true := hd
        unfold setF at hd'
        split at hd'
        · cases hd'
        · exact h.wait d hd'
      · unfold pot
        dsimp only
        rw [List.length_append, List.length_singleton]
        omega
    exact hs.trans (drain_ok hF x.1 _ _ hs.good h1 h6) (Nat.le_refl _)
  · exact Step.refl h
theorem grants_ok {doF : Runr → Op3 → Runr} (hF : DoOk doF) (l : List Op3) : ∀ r : Runr, Good r → Step r (l.foldl (grantR doF) r) 0 := by
  induction l with
  | nil => intro r h; exact Step.refl h
  | cons x q ih =>
    intro r h
    rw [List.foldl_cons]
    have h1 := grant_ok hF x r h
    exact h1.trans (ih _ h1.good) (Nat.le_refl _)
theorem free_good {r : Runr} (h : Good r) (t : Int) : Good { r with tab := (freeT r.tab t).1 } := by
  refine ⟨fun x hx => ?_, fun x hx => ?_, h.gone, h.ops, ?_, h.vict, h.wait⟩
  · rcases (mem_free.1 hx).1 with h1 | h1
    · exact h.t1 x h1
    · exact h.t2 x h1
  · exact h.t2 x (mem_free.2.1 hx).1
  · have := free_sum r.tab t
    have := h.size
    show (freeT r.tab t).1.1.length + (freeT r.tab t).1.2.length ≤ r.told.length + cnt6 r.waits
    omega
theorem freeR_ok {doF : Runr → Op3 → Runr} (hF : DoOk doF) (t : Int) (r : Runr) (h : Good r) : Step r (freeR doF r t) 0 := by
  unfold freeR
  have hs : Step r { r with tab := (freeT r.tab t).1 } 0 := ⟨free_good h t, fun _ => Nat.le_refl _, fun _ he => he, Nat.le_refl _⟩
  exact hs.trans (grants_ok hF _ _ hs.good) (Nat.le_refl _)
/-- Of one that is aborted nothing is left when all of it is free. -/
theorem abort_good {r : Runr} {t : Int} (h : Good r) (h1 : 1 ≤ t) (h6 : t ≤ 6) (ho : r.out t = false) : Good { abort0 r t with tab := (freeT r.tab t).1 } := by
  have hc : (cnt6 fun d => !setF r.out t true d) + 1 = cnt6 fun d => !r.out d := by
    rw [← cnt_drop (f := fun d => !r.out d) h1 h6 (by simp [ho])]
    congr 2
    funext d
    unfold setF
    split <;> rfl
  refine ⟨fun x hx => ?_, fun x hx => ?_, fun d hd => ?_, fun d o hd => ?_, ?_, ?_, fun d hd => ?_⟩
  · obtain ⟨hm, hne⟩ := mem_free.1 hx
    show setF r.out t true x.1 = false ∧ _
    rw [setF_other _ _ hne]
    rcases hm with hm | hm
    · exact h.t1 x hm
    · exact h.t2 x hm
  · obtain ⟨hm, hne⟩ := mem_free.2.1 hx
    show setF r.out t true x.1 = false ∧ _
    rw [setF_other _ _ hne]
    exact h.t2 x hm
  · have hd' : setF r.out t true d = true := hd
    show setF r.behind t [] d = []
    unfold setF at hd' ⊢
    split
    · rfl
    · rename_i hne
      rw [if_neg hne] at hd'
      exact h.gone d hd'
  · have hd' : o ∈ setF r.behind t [] d := hd
    unfold setF at hd'
    split at hd'
    · cases hd'
    · exact h.ops d o hd'
  · have h2 := free_sum r.tab t
    have h3 := h.size
    have h4 : cnt6 r.waits ≤ cnt6 (setF r.waits t false) + 1 := by
      cases hw : r.waits t with
      | true => have := cnt_drop h1 h6 hw; omega
      | false =>
        have : cnt6 r.waits ≤ cnt6 (setF r.waits t false) := cnt_mono fun d hd => by
          unfold setF
          split
          · rename_i e
            rw [e, hw] at hd
            cases hd
          · exact hd
        omega
    show (freeT r.tab t).1.1.length + (freeT r.tab t).1.2.length ≤ (r.told ++ [(t, 4, 0)]).length + cnt6 (setF r.waits t false)
    rw [List.length_append, List.length_singleton]
    omega
  · have := h.vict
    show (r.vict ++ [t]).length + (cnt6 fun d => !setF r.out t true d) ≤ 6
    rw [List.length_append, List.length_singleton]
    omega
  · have hd' : setF r.waits t false d = true := hd
    unfold setF at hd'
    split at hd'
    · cases hd'
    · exact h.wait d hd'
theorem abort_ok {doF : Runr → Op3 → Runr} (hF : DoOk doF) {t : Int} {r : Runr} (h : Good r) (h1 : 1 ≤ t) (h6 : t ≤ 6) (ho : r.out t = false) : Step r (abortR doF r t) 0 ∧ (abortR doF r t).out t = true := by
  have hg := abort_good h h1 h6 ho
  have hc : (cnt6 fun d => !setF r.out t true d) + 1 = cnt6 fun d => !r.out d := by
    rw [← cnt_drop (f := fun d => !r.out d) h1 h6 (by simp [ho])]
    congr 2
    funext d
    unfold setF
    split <;> rfl
  have hs : Step r { abort0 r t with tab := (freeT r.tab t).1 } 0 := by
    refine ⟨hg, fun d => ?_, fun d hd => ?_, ?_⟩
    · show (setF r.behind t [] d).length ≤ _
      unfold setF
      split
      · simp
      · exact Nat.le_refl _
    · show setF r.out t true d = true
      unfold setF
      split
      · rfl
      · exact hd
    · have h2 : sum6 (setF r.behind t []) ≤ sum6 r.behind := sum_mono fun d => by
        unfold setF
        split
        · simp
        · exact Nat.le_refl _
      have h3 := cnt_false (f := r.waits) (d := t)
      unfold pot
      unfold abort0
      dsimp only
      rw [List.length_append, List.length_singleton]
      omega
  have hk := grants_ok hF (freeT r.tab t).2 _ hg
  refine ⟨hs.trans hk (Nat.le_refl _), hk.outs t ?_⟩
  show setF r.out t true t = true
  exact setF_same _ _ _
theorem young_mem {s : Tab2} {t v : Int} (h : youngR s t = some v) : v ∈ whomR s t ∧ t < v := by
  unfold youngR at h
  exact ⟨List.mem_of_find?_eq_some h, by simpa using List.find?_some h⟩
theorem whom_deal {r : Runr} (h : Good r) {t v : Int} (hv : v ∈ whomR r.tab t) : r.out v = false ∧ 1 ≤ v ∧ v ≤ 6 := by
  rcases mem_whom hv with ⟨y, hy, rfl⟩ | ⟨y, hy, rfl⟩
  · exact h.t1 y hy
  · exact h.t2 y hy
theorem wound_ok {doF : Runr → Op3 → Runr} (hF : DoOk doF) (t : Int) : ∀ (n : Nat) (r : Runr), Good r → Step r (woundN doF t n r) 0 := by
  intro n
  induction n with
  | zero => intro r h; exact Step.refl h
  | succ n ih =>
    intro r h
    unfold woundN
    split
    · exact Step.refl h
    · rename_i v hv
      obtain ⟨ho, h1, h6⟩ := whom_deal h (young_mem hv).1
      have hs := (abort_ok hF h h1 h6 ho).1
      exact hs.trans (ih _ hs.good) (Nat.le_refl _)
theorem way_ok {doF : Runr → Op3 → Runr} (hF : DoOk doF) (way t : Int) (r : Runr) (h : Good r) (h1 : 1 ≤ t) (h6 : t ≤ 6) (ho : r.out t = false) : Step r (wayR way doF r t) 0 := by
  unfold wayR
  split
  · split
    · exact (abort_ok hF h h1 h6 ho).1
    · exact Step.refl h
  · split
    · split
      · exact Step.refl h
      · split
        · exact (abort_ok hF h h1 h6 ho).1
        · exact Step.refl h
    · exact wound_ok hF t 7 r h
theorem doW_ok {doF : Runr → Op3 → Runr} (hF : DoOk doF) (way : Int) : DoOk (doW way doF) := by
  intro r o h ho hnw hop
  obtain ⟨h1, h6⟩ := isOp_range hop
  unfold doW
  split
  · have hs : Step r { r with told := r.told ++ [o] } 1 := by
      refine ⟨⟨h.t1, h.t2, h.gone, h.ops, ?_, h.vict, h.wait⟩, fun _ => Nat.le_refl _, fun _ he => he, ?_⟩
      · have := h.size
        dsimp only
        rw [List.length_append]
        omega
      · unfold pot
        dsimp only
        rw [List.length_append, List.length_singleton]
        omega
    exact hs.trans (freeR_ok hF o.1 _ hs.good) (Nat.le_refl _)
  · have hsum := ask_sum r.tab (o.1, o.2.2, o.2.1)
    have hm1 : ∀ x ∈ (askT r.tab (o.1, o.2.2, o.2.1)).2.1, r.out x.1 = false ∧ 1 ≤ x.1 ∧ x.1 ≤ 6 := fun x hx => by
      rcases mem_ask.1 hx with h2 | h2
      · exact h.t1 x h2
      · rw [h2]; exact ⟨ho, h1, h6⟩
    have hm2 : ∀ x ∈ (askT r.tab (o.1, o.2.2, o.2.1)).2.2, r.out x.1 = false ∧ 1 ≤ x.1 ∧ x.1 ≤ 6 := fun x hx => by
      rcases mem_ask.2 hx with h2 | h2
      · exact h.t2 x h2
      · rw [h2]; exact ⟨ho, h1, h6⟩
    split
    · refine ⟨⟨hm1, hm2, h.gone, h.ops, ?_, h.vict, h.wait⟩, fun _ => Nat.le_refl _, fun _ he => he, ?_⟩
      · have := h.size
        dsimp only at hsum ⊢
        rw [List.length_append, List.length_singleton]
        omega
      · unfold pot
        dsimp only
        rw [List.length_append, List.length_singleton]
        omega
    · have hcw : cnt6 (setF r.waits o.1 true) = cnt6 r.waits + 1 := by
        have h2 := cnt_drop (f := setF r.waits o.1 true) h1 h6 (setF_same _ _ _)
        have h3 : setF (setF r.waits o.1 true) o.1 false = r.waits := by
          funext d
          unfold setF
          split
          · rename_i e; rw [e, hnw]
          · rfl
        rw [h3] at h2
        omega
      have hw : Good (wait0 r o) := by
        refine ⟨hm1, hm2, h.gone, h.ops, ?_, h.vict, fun d hd => ?_⟩
        · have h2 := h.size
          unfold wait0
          dsimp only at hsum ⊢
          omega
        · have hd' : setF r.waits o.1 true d = true := hd
          unfold setF at hd'
          split at hd'
          · rename_i e; rw [e]; exact ⟨h1, h6⟩
          · exact h.wait d hd'
      have hs : Step r (wait0 r o) 1 := by
        refine ⟨hw, fun _ => Nat.le_refl _, fun _ he => he, ?_⟩
        unfold pot wait0
        dsimp only
        omega
      exact hs.trans (way_ok hF way o.1 _ hw h1 h6 ho) (Nat.le_refl _)
/-- By the number of calls that may still come. -/
theorem doN_ok (way : Int) : ∀ n, DoOk (doN way n) := by
  intro n
  induction n with
  | zero => intro r o h _ _ _; exact (Step.refl h).mono (by omega)
  | succ n ih => exact doW_ok ih way
/-- Op by op. -/
theorem come_ok (way : Int) (r : Runr) (o : Op3) (h : Good r) (hop : isOpB o = true) : Good (comeR way r o) ∧ pot (comeR way r o) ≤ pot r + 1 := by
  obtain ⟨h1, h6⟩ := isOp_range hop
  unfold comeR
  split
  · exact ⟨h, by omega⟩
  · rename_i ho
    have ho' : r.out o.1 = false := by simpa using ho
    split
    · refine ⟨⟨h.t1, h.t2, fun d hd => ?_, fun d p hp => ?_, h.size, h.vict, h.wait⟩, ?_⟩
      · show setF r.behind o.1 _ d = []
        have hd' : r.out d = true := hd
        rw [setF_other _ _ (fun e => by rw [e, ho'] at hd'; cases hd')]
        exact h.gone d hd
      · have hp' : p ∈ setF r.behind o.1 (r.behind o.1 ++ [o]) d := hp
        unfold setF at hp'
        split at hp'
        · rename_i e
          subst e
          rcases List.mem_append.1 hp' with hp' | hp'
          · exact h.ops _ p hp'
          · rw [List.mem_singleton.1 hp']; exact ⟨rfl, hop⟩
        · exact h.ops d p hp'
      · have := sum_push (f := r.behind) o h1 h6
        unfold pot
        dsimp only
        omega
    · rename_i hw
      have hs := doN_ok way 41 r o h ho' (by simpa using hw) hop
      exact ⟨hs.good, hs.pots⟩
theorem strict_ok (way : Int) (l : List Op3) (hop : ∀ o ∈ l, isOpB o = true) : ∀ k, k ≤ l.length → Good (strictR way (l.take k)) ∧ pot (strictR way (l.take k)) ≤ k + 6 := by
  intro k
  induction k with
  | zero => intro _; exact ⟨good0, show pot run0 ≤ 0 + 6 by decide⟩
  | succ k ih =>
    intro hk
    have h1 := ih (by omega)
    have e : strictR way (l.take (k + 1)) = comeR way (strictR way (l.take k)) l[k] := by
      unfold strictR
      rw [List.take_succ_eq_append_getElem (by omega), List.foldl_append]
      rfl
    have h2 := come_ok way _ l[k] h1.1 (hop _ (List.getElem_mem _))
    rw [e]
    exact ⟨h2.1, by omega⟩
/-- Nobody has a lock, nobody waits. -/
structure Calm0 (r : Runr) : Prop where
  tab : r.tab = ([], [])
  waits : ∀ d, r.waits d = false
  out : ∀ d, r.out d = false
  vict : r.vict = []
theorem lock_of {t x m : Int} (h1 : 1 ≤ t ∧ t ≤ 6) (h2 : 1 ≤ x ∧ x ≤ 6) (h3 : m = 1 ∨ m = 2) : isLock (t, x, m) = true := by
  unfold isLock
  rcases h3 with rfl | rfl <;> simp [h1, h2]
theorem one_read {t a : Int} (h1 : 1 ≤ t ∧ t ≤ 6) (h2 : 1 ≤ a ∧ a ≤ 6) : askT ([], []) (t, a, 1) = ((true, 0), ([(t, a, 1)], [])) := by
  unfold askT
  rw [if_neg (by rw [lock_of h1 h2 (.inl rfl)]; decide), if_neg (by simp [waitsB]), if_neg (by simp [hasL]), if_pos (by simp [clearL])]
  rfl
theorem one_write {t a b : Int} (h1 : 1 ≤ t ∧ t ≤ 6) (h2 : 1 ≤ b ∧ b ≤ 6) : ∃ l, askT ([(t, a, 1)], []) (t, b, 2) = ((true, 0), (l, [])) ∧ ∀ x ∈ l, x.1 = t := by
  unfold askT
  rw [if_neg (by rw [lock_of h1 h2 (.inr rfl)]; decide), if_neg (by simp [waitsB]), if_neg (by simp [hasL]), if_pos (by simp [clearL, lodd])]
  refine ⟨_, rfl, fun x hx => ?_⟩
  rcases mem_holdL hx with rfl | hx
  · rfl
  · rw [List.mem_singleton.1 hx]
theorem free_all {l : List Op3} {t : Int} (h : ∀ x ∈ l, x.1 = t) : freeT (l, []) t = (([], []), []) := by
  have hw : withoutL l t = [] := by
    unfold withoutL
    rw [List.filter_eq_nil_iff]
    intro x hx
    simp [h x hx]
  unfold freeT
  rw [hw]
  rfl
theorem piece_run {way a b t : Int} {r : Runr} (hr : Calm0 r) (h1 : 1 ≤ t ∧ t ≤ 6) (h2 : 1 ≤ a ∧ a ≤ 6) (h3 : 1 ≤ b ∧ b ≤ 6) : Calm0 (comeR way (comeR way (comeR way r (t, 1, a)) (t, 2, b)) (t, 3, 0)) ∧ (comeR way (comeR way (comeR way r (t, 1, a)) (t, 2, b)) (t, 3, 0)).told = r.told ++ [(t, 1, a), (t, 2, b), (t, 3, 0)] := by
  obtain ⟨l, hl, hlt⟩ := one_write (a := a) h1 h3
  have e1 : comeR way r (t, 1, a) = { r with tab := ([(t, a, 1)], []), told := r.told ++ [(t, 1, a)] } := by
    unfold comeR
    rw [if_neg (by rw [hr.out]; decide), if_neg (by rw [hr.waits]; decide)]
    show doW way (doN way 40) r (t, 1, a) = _
    unfold doW
    rw [if_neg (show ¬ (3 : Int) ≤ 1 by decide)]
    dsimp only
    rw [hr.tab, one_read h1 h2, if_pos rfl]
  rw [e1]
  have e2 : comeR way { r with tab := ([(t, a, 1)], []), told := r.told ++ [(t, 1, a)] } (t, 2, b) = { r with tab := (l, []), told := r.told ++ [(t, 1, a)] ++ [(t, 2, b)] } := by
    unfold comeR
    dsimp only
    rw [if_neg (by rw [hr.out]; decide), if_neg (by rw [hr.waits]; decide)]
    show doW way (doN way 40) _ (t, 2, b) = _
    unfold doW
    rw [if_neg (show ¬ (3 : Int) ≤ 2 by decide)]
    dsimp only
    rw [hl, if_pos rfl]
  rw [e2]
  have e3 : comeR way { r with tab := (l, []), told := r.told ++ [(t, 1, a)] ++ [(t, 2, b)] } (t, 3, 0) = { r with tab := ([], []), told := r.told ++ [(t, 1, a)] ++ [(t, 2, b)] ++ [(t, 3, 0)] } := by
    unfold comeR
    dsimp only
    rw [if_neg (by rw [hr.out]; decide), if_neg (by rw [hr.waits]; decide)]
    show doW way (doN way 40) _ (t, 3, 0) = _
    unfold doW
    rw [if_pos (show (3 : Int) ≤ 3 by decide)]
    unfold freeR
    dsimp only
    rw [free_all hlt]
    rfl
  rw [e3]
  exact ⟨⟨rfl, hr.waits, hr.out, hr.vict⟩, by simp⟩
theorem pieces_run {way a b : Int} (h2 : 1 ≤ a ∧ a ≤ 6) (h3 : 1 ≤ b ∧ b ≤ 6) : ∀ (ps : List Int) (r : Runr), Calm0 r → (∀ x ∈ ps, 1 ≤ x ∧ x ≤ 6) → Calm0 ((ps.flatMap fun t => [((t, 1, a) : Op3), (t, 2, b), (t, 3, 0)]).foldl (comeR way) r) ∧ ((ps.flatMap fun t => [((t, 1, a) : Op3), (t, 2, b), (t, 3, 0)]).foldl (comeR way) r).told = r.told ++ ps.flatMap fun t => [(t, 1, a), (t, 2, b), (t, 3, 0)] := by
  intro ps
  induction ps with
  | nil => intro r hr _; exact ⟨hr, by simp⟩
  | cons t q ih =>
    intro r hr hps
    obtain ⟨h4, h5⟩ := piece_run (way := way) hr (hps t List.mem_cons_self) h2 h3
    obtain ⟨h6, h7⟩ := ih _ h4 fun x hx => hps x (List.mem_cons_of_mem _ hx)
    rw [List.flatMap_cons, List.foldl_append]
    refine ⟨h6, ?_⟩
    rw [show List.foldl (comeR way) r [(t, 1, a), (t, 2, b), (t, 3, 0)] = comeR way (comeR way (comeR way r (t, 1, a)) (t, 2, b)) (t, 3, 0) from rfl, h7, h5, List.append_assoc]
/-- Who comes one behind the other waits for nobody. -/
theorem strict_serial {way a b : Int} (h2 : 1 ≤ a ∧ a ≤ 6) (h3 : 1 ≤ b ∧ b ≤ 6) (ps : List Int) (hps : ∀ x ∈ ps, 1 ≤ x ∧ x ≤ 6) : (strictR way (ps.flatMap fun t => [(t, 1, a), (t, 2, b), (t, 3, 0)])).told = (ps.flatMap fun t => [(t, 1, a), (t, 2, b), (t, 3, 0)]) ∧ (strictR way (ps.flatMap fun t => [(t, 1, a), (t, 2, b), (t, 3, 0)])).vict = [] := by
  obtain ⟨h4, h5⟩ := pieces_run (way := way) h2 h3 ps run0 ⟨rfl, fun _ => rfl, fun _ => rfl, rfl⟩ hps
  exact ⟨by simpa [strictR, run0] using h5, h4.vict⟩
end Go.Proofs.YtccjognnehoodafDoor

namespace Go.Proofs.YtccjognnehoodafDoor

/-- How things stand while deals ask: the greatest that read, that wrote, of each item; who is aborted; what is told; who was aborted, in order. -/
structure Stm where
  rd : Int → Int
  wr : Int → Int
  out : Int → Bool
  told : List Op3
  vict : List Int
def stm0 : Stm := ⟨fun _ => 0, fun _ => 0, fun _ => false, [], []⟩
def lateS (s : Stm) (o : Op3) : Bool := decide (o.1 < s.wr o.2.2)
def badS (leave : Bool) (s : Stm) (o : Op3) : Bool := if o.2.1 = 1 then lateS s o else if o.2.1 = 2 then decide (o.1 < s.rd o.2.2) || (lateS s o && !leave) else false
def goneS (s : Stm) (t : Int) : Stm := { s with out := setF s.out t true, vict := s.vict ++ [t], told := s.told ++ [(t, 4, 0)] }
def maxI (a b : Int) : Int := if a < b then b else a
def stepS (leave : Bool) (s : Stm) (o : Op3) : Stm :=
  if s.out o.1 = true then s else if badS leave s o = true then goneS s o.1
  else if o.2.1 = 1 then { s with rd := setF s.rd o.2.2 (maxI (s.rd o.2.2) o.1), told := s.told ++ [o] }
  else if o.2.1 = 2 then (if lateS s o = true then s else { s with wr := setF s.wr o.2.2 o.1, told := s.told ++ [o] })
  else { s with told := s.told ++ [o] }
def stampR (leave : Bool) (l : List Op3) : Stm := l.foldl (stepS leave) stm0

/-- What is always so, when the first of a list have come. -/
structure StOk (pre : List Op3) (s : Stm) : Prop where
  ops : ∀ o ∈ s.told, isOpB o = true
  calm : Calm s.told
  ends : ∀ t, s.out t = false → endedIn s.told t = true → endedIn pre t = true
  rds : ∀ o ∈ s.told, o.2.1 = 1 → o.1 ≤ s.rd o.2.2
  wrs : ∀ o ∈ s.told, o.2.1 = 2 → o.1 ≤ s.wr o.2.2
  rise : s.told.Pairwise fun a b => oddB a b = true → a.1 < b.1
  vict : ∀ v ∈ s.vict, s.out v = true ∧ 1 ≤ v ∧ v ≤ 6
  last : ∀ t, s.out t = true → ∃ q, ofL s.told t = q ++ [(t, 4, 0)]
  long : s.told.length ≤ pre.length ∧ s.vict.length ≤ pre.length
theorem stOk0 : StOk [] stm0 := ⟨fun o h => (by cases h), List.Pairwise.nil, fun t _ h => (by cases h), fun o h => (by cases h), fun o h => (by cases h), List.Pairwise.nil, fun v h => (by cases h), fun t h => (by cases h), Nat.le_refl _, Nat.le_refl _⟩
theorem calm_snoc {l : List Op3} {x : Op3} (h : Calm l) (hx : endedIn l x.1 = false) : Calm (l ++ [x]) := by
  refine List.pairwise_append.2 ⟨h, List.pairwise_singleton _ _, fun a ha b hb => ?_⟩
  rw [List.mem_singleton.1 hb]
  rintro ⟨e1, e2⟩
  have : endedIn l x.1 = true := List.any_eq_true.2 ⟨a, ha, by rw [e1, e2]; simp⟩
  rw [hx] at this
  cases this
theorem ended_snoc (l : List Op3) (x : Op3) (t : Int) : endedIn (l ++ [x]) t = (endedIn l t || (x.1 == t && endsB x.2.1)) := by
  unfold endedIn
  rw [List.any_append]
  simp
theorem of_snoc (l : List Op3) (x : Op3) (t : Int) : ofL (l ++ [x]) t = ofL l t ++ (if x.1 = t then [x] else []) := by
  unfold ofL
  rw [List.filter_append]
  congr 1
  by_cases h : x.1 = t
  · simp [h]
  · simp [h]
theorem odd_parts {a b : Op3} (h : oddB a b = true) : a.1 ≠ b.1 ∧ a.2.2 = b.2.2 ∧ (a.2.1 = 2 ∨ b.2.1 = 2) := by
  simpa [oddB] using h
theorem isOp_kinds {o : Op3} (h : isOpB o = true) : o.2.1 = 1 ∨ o.2.1 = 2 ∨ ((o.2.1 = 3 ∨ o.2.1 = 4) ∧ o.2.2 = 0) := by
  simp only [isOpB, endsB, Bool.and_eq_true, Bool.not_eq_true', Bool.or_eq_false_iff, decide_eq_false_iff_not] at h
  obtain ⟨⟨⟨⟨h1, h2⟩, h3⟩, h4⟩, h5⟩ := h
  rcases (show o.2.1 = 1 ∨ o.2.1 = 2 ∨ o.2.1 = 3 ∨ o.2.1 = 4 by omega) with e | e | e | e
  · exact .inl e
  · exact .inr (.inl e)
  · rw [e] at h5; simp at h5; exact .inr (.inr ⟨.inl e, h5⟩)
  · rw [e] at h5; simp at h5; exact .inr (.inr ⟨.inr e, h5⟩)
theorem isOp_pos {o : Op3} (h : isOpB o = true) (hw : o.2.1 = 1 ∨ o.2.1 = 2) : 1 ≤ o.2.2 := by
  simp only [isOpB, endsB, Bool.and_eq_true] at h
  have h5 := h.2
  rcases hw with e | e <;> rw [e] at h5 <;> simp at h5 <;> omega
/-- One more that is told. -/
theorem StOk.tell {pre : List Op3} {s : Stm} {o : Op3} (h : StOk pre s) (hop : isOpB o = true) (hout : s.out o.1 = false) (hend : endedIn pre o.1 = false) (f g : Int → Int) (hf : ∀ x, s.rd x ≤ f x) (hg : ∀ x, s.wr x ≤ g x)
    (ho1 : o.2.1 = 1 → o.1 ≤ f o.2.2 ∧ ∀ a ∈ s.told, a.2.1 = 2 → a.2.2 = o.2.2 → a.1 ≤ o.1) (ho2 : o.2.1 = 2 → o.1 ≤ g o.2.2 ∧ ∀ a ∈ s.told, (a.2.1 = 1 ∨ a.2.1 = 2) → a.2.2 = o.2.2 → a.1 ≤ o.1) : StOk (pre ++ [o]) { s with rd := f, wr := g, told := s.told ++ [o] } := by
  have hne : endedIn s.told o.1 = false := by
    cases he : endedIn s.told o.1 with
    | false => rfl
    | true => rw [h.ends _ hout he] at hend; cases hend
  refine ⟨fun x hx => ?_, calm_snoc h.calm hne, fun t ht he => ?_, fun x hx hx1 => ?_, fun x hx hx2 => ?_, ?_, h.vict, fun t ht => ?_, ?_⟩
  · rcases List.mem_append.1 hx with hx | hx
    · exact h.ops x hx
    · rw [List.mem_singleton.1 hx]; exact hop
  · show endedIn (pre ++ [o]) t = true
    have he' : endedIn (s.told ++ [o]) t = true := he
    rw [ended_snoc] at he' ⊢
    rcases Bool.or_eq_true_iff.1 he' with h1 | h1
    · rw [h.ends t ht h1]; rfl
    · rw [h1]; simp
  · rcases List.mem_append.1 hx with hx | hx
    · exact Int.le_trans (h.rds x hx hx1) (hf _)
    · rw [List.mem_singleton.1 hx] at hx1 ⊢; exact (ho1 hx1).1
  · rcases List.mem_append.1 hx with hx | hx
    · exact Int.le_trans (h.wrs x hx hx2) (hg _)
    · rw [List.mem_singleton.1 hx] at hx2 ⊢; exact (ho2 hx2).1
  · refine List.pairwise_append.2 ⟨h.rise, List.pairwise_singleton _ _, fun a ha b hb hodd => ?_⟩
    rw [List.mem_singleton.1 hb] at hodd ⊢
    obtain ⟨e1, e2, e3⟩ := odd_parts hodd
    have hle : a.1 ≤ o.1 := by
      rcases isOp_kinds hop with ho | ho | ⟨ho, hi⟩
      · rcases e3 with e3 | e3
        · exact (ho1 ho).2 a ha e3 e2
        · omega
      · rcases isOp_kinds (h.ops a ha) with ha1 | ha2 | ⟨ha3, hai⟩
        · exact (ho2 ho).2 a ha (.inl ha1) e2
        · exact (ho2 ho).2 a ha (.inr ha2) e2
        · have := isOp_pos hop (.inr ho)
          omega
      · rcases e3 with e3 | e3
        · have := isOp_pos (h.ops a ha) (.inr e3)
          omega
        · omega
    omega
  · have hne2 : t ≠ o.1 := fun e => by rw [e, hout] at ht; cases ht
    obtain ⟨q, hq⟩ := h.last t ht
    refine ⟨q, ?_⟩
    show ofL (s.told ++ [o]) t = _
    rw [of_snoc, if_neg (fun e => hne2 e.symm), List.append_nil, hq]
  · have := h.long
    show (s.told ++ [o]).length ≤ (pre ++ [o]).length ∧ s.vict.length ≤ (pre ++ [o]).length
    simp only [List.length_append, List.length_singleton]
    omega
theorem StOk.skip {pre : List Op3} {s : Stm} (h : StOk pre s) (o : Op3) : StOk (pre ++ [o]) s := by
  refine ⟨h.ops, h.calm, fun t ht he => ?_, h.rds, h.wrs, h.rise, h.vict, h.last, ?_⟩
  · rw [ended_snoc, h.ends t ht he]; rfl
  · have := h.long
    rw [List.length_append]
    omega
theorem StOk.gone {pre : List Op3} {s : Stm} {o : Op3} (h : StOk pre s) (hop : isOpB o = true) (hout : s.out o.1 = false) (hend : endedIn pre o.1 = false) : StOk (pre ++ [o]) (goneS s o.1) := by
  have hne : endedIn s.told o.1 = false := by
    cases he : endedIn s.told o.1 with
    | false => rfl
    | true => rw [h.ends _ hout he] at hend; cases hend
  have hr := isOp_range hop
  have hab : isOpB (o.1, 4, 0) = true := by simp [isOpB, endsB]; omega
  refine ⟨fun x hx => ?_, calm_snoc (x := (o.1, 4, 0)) h.calm hne, fun t ht he => ?_, fun x hx hx1 => ?_, fun x hx hx2 => ?_, ?_, fun v hv => ?_, fun t ht => ?_, ?_⟩
  · rcases List.mem_append.1 hx with hx | hx
    · exact h.ops x hx
    · rw [List.mem_singleton.1 hx]; exact hab
  · have ht' : setF s.out o.1 true t = false := ht
    have hne2 : t ≠ o.1 := fun e => by rw [e, setF_same] at ht'; cases ht'
    rw [setF_other _ _ hne2] at ht'
    have he' : endedIn (s.told ++ [(o.1, 4, 0)]) t = true := he
    rw [ended_snoc] at he'
    rcases Bool.or_eq_true_iff.1 he' with h1 | h1
    · rw [ended_snoc, h.ends t ht' h1]; rfl
    · simp at h1; exact absurd h1.1.symm hne2
  · rcases List.mem_append.1 hx with hx | hx
    · exact h.rds x hx hx1
    · rw [List.mem_singleton.1 hx] at hx1; cases hx1
  · rcases List.mem_append.1 hx with hx | hx
    · exact h.wrs x hx hx2
    · rw [List.mem_singleton.1 hx] at hx2; cases hx2
  · refine List.pairwise_append.2 ⟨h.rise, List.pairwise_singleton _ _, fun a ha b hb hodd => ?_⟩
    rw [List.mem_singleton.1 hb] at hodd
    obtain ⟨e1, e2, e3⟩ := odd_parts hodd
    rcases e3 with e3 | e3
    · have := isOp_pos (h.ops a ha) (.inr e3)
      simp at e2
      omega
    · simp at e3
  · rcases List.mem_append.1 hv with hv | hv
    · obtain ⟨h1, h2⟩ := h.vict v hv
      refine ⟨?_, h2⟩
      show setF s.out o.1 true v = true
      unfold setF
      split
      · rfl
      · exact h1
    · rw [List.mem_singleton.1 hv]; exact ⟨setF_same _ _ _, hr⟩
  · show ∃ q, ofL (s.told ++ [(o.1, 4, 0)]) t = q ++ [(t, 4, 0)]
    rw [of_snoc]
    by_cases e : o.1 = t
    · rw [if_pos e, e]; exact ⟨_, rfl⟩
    · rw [if_neg e, List.append_nil]
      have ht' : setF s.out o.1 true t = true := ht
      rw [setF_other _ _ (fun h => e h.symm)] at ht'
      exact h.last t ht'
  · have := h.long
    show (s.told ++ [_]).length ≤ (pre ++ [o]).length ∧ (s.vict ++ [_]).length ≤ (pre ++ [o]).length
    simp only [List.length_append, List.length_singleton]
    omega
theorem maxI_le (a b : Int) : a ≤ maxI a b ∧ b ≤ maxI a b := by
  unfold maxI
  split <;> omega
theorem step_stamp {leave : Bool} {pre : List Op3} {s : Stm} {o : Op3} (h : StOk pre s) (hop : isOpB o = true) (hend : endedIn pre o.1 = false) : StOk (pre ++ [o]) (stepS leave s o) := by
  unfold stepS
  split
  · exact h.skip o
  · rename_i hout
    have hout' : s.out o.1 = false := by simpa using hout
    split
    · exact h.gone hop hout' hend
    · rename_i hbad
      split
      · rename_i h1
        have hl : ¬ o.1 < s.wr o.2.2 := by
          unfold badS at hbad
          rw [if_pos h1] at hbad
          simpa [lateS] using hbad
        refine h.tell hop hout' hend (setF s.rd o.2.2 (maxI (s.rd o.2.2) o.1)) s.wr (fun x => ?_) (fun x => Int.le_refl _) (fun _ => ⟨?_, fun a ha ha2 hai => ?_⟩) (fun h2 => by omega)
        · unfold setF
          split
          · rename_i e; rw [e]; exact (maxI_le _ _).1
          · exact Int.le_refl _
        · rw [setF_same]; exact (maxI_le _ _).2
        · have := h.wrs a ha ha2
          rw [hai] at this
          omega
      · rename_i h1
        split
        · rename_i h2
          split
          · exact h.skip o
          · rename_i hlate
            have hl : ¬ o.1 < s.wr o.2.2 := by simpa [lateS] using hlate
            have hr : ¬ o.1 < s.rd o.2.2 := by
              unfold badS at hbad
              rw [if_neg h1, if_pos h2] at hbad
              simp at hbad
              omega
            refine h.tell hop hout' hend s.rd (setF s.wr o.2.2 o.1) (fun x => Int.le_refl _) (fun x => ?_) (fun h3 => absurd h3 h1) (fun _ => ⟨by rw [setF_same]; exact Int.le_refl _, fun a ha ha2 hai => ?_⟩)
            · unfold setF
              split
              · rename_i e; rw [e]; omega
              · exact Int.le_refl _
            · rcases ha2 with ha2 | ha2
              · have := h.rds a ha ha2
                rw [hai] at this
                omega
              · have := h.wrs a ha ha2
                rw [hai] at this
                omega
        · rename_i h2
          exact h.tell hop hout' hend s.rd s.wr (fun x => Int.le_refl _) (fun x => Int.le_refl _) (fun h3 => absurd h3 h1) (fun h3 => absurd h3 h2)
theorem calm_ended {l : List Op3} (h : Calm l) {k : Nat} (hk : k < l.length) : endedIn (l.take k) l[k].1 = false := by
  unfold endedIn
  rw [List.any_eq_false]
  intro a ha
  have hm : l.take k ++ [l[k]] = l.take (k + 1) := by rw [List.take_succ_eq_append_getElem hk]
  have hp : (l.take k ++ [l[k]]).Pairwise fun a b => ¬ (a.1 = b.1 ∧ endsB a.2.1 = true) := by rw [hm]; exact h.sublist (List.take_sublist _ _)
  have := (List.pairwise_append.1 hp).2.2 a ha l[k] (List.mem_singleton.2 rfl)
  simpa using this
theorem stamp_ok (leave : Bool) (l : List Op3) (hop : ∀ o ∈ l, isOpB o = true) (hc : Calm l) : ∀ k, k ≤ l.length → StOk (l.take k) (stampR leave (l.take k)) := by
  intro k
  induction k with
  | zero => intro _; exact stOk0
  | succ k ih =>
    intro hk
    have h1 := ih (by omega)
    have e : stampR leave (l.take (k + 1)) = stepS leave (stampR leave (l.take k)) l[k] := by
      unfold stampR
      rw [List.take_succ_eq_append_getElem (by omega), List.foldl_append]
      rfl
    rw [e, List.take_succ_eq_append_getElem (by omega)]
    exact step_stamp h1 (hop _ (List.getElem_mem _)) (calm_ended hc (by omega))
theorem stamp_all (leave : Bool) {l : List Op3} (h : (chk l).2 = 0) : StOk l (stampR leave l) := by
  obtain ⟨_, h2, h3⟩ := (chk_iff l).1 h
  have := stamp_ok leave l h2 h3 l.length (Nat.le_refl _)
  rw [List.take_length] at this
  exact this
/-- What is told is right. -/
theorem stamp_chk (leave : Bool) {l : List Op3} (h : (chk l).2 = 0) : (chk (stampR leave l).told).2 = 0 := by
  have h1 := stamp_all leave h
  have h2 := chk_len h
  exact (chk_iff _).2 ⟨by have := h1.long; omega, h1.ops, h1.calm⟩
end Go.Proofs.YtccjognnehoodafDoor
