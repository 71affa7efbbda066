/-
  PROVED HERE: plain facts, with no word of the program: the least deal that waits for nobody who is waiting; the order that is made of such ones, one behind the other.
  Conditions: none.
  PROVED HERE: plain facts, with no word of the program: ways of at least one edge; what going along all edges from a deal on, once to each, sees.
  Conditions: none.
  PROVED HERE: plain facts, with no word of the program: rings of so many that go on from a beginning, the first by numbers.
  Conditions: none.
  (Of these, what the claim wants: the rest was left out.)
  PROVED HERE: plain facts, with no word of the program: edges have an order of the kind that the program makes just if they have no ring; in an order each deal stands behind those from which an edge leads to it; around a ring edges lead.
  Conditions: none.
  (Of these, what the claim wants: the rest was left out.)
-/
import Derived.Test.YtmjjiehnjghndaaGreatMgab
namespace Go.Proofs.YtmjjiehnjghndaaGreat

/-- A deal is held by one that is waiting; it is next, if it waits and nobody holds it. -/
def holdB (s : Set7) (t : Nat) (e : Edge2) : Bool := e.2 == (t : Int) && s e.1.toNat
def freeB (l : List Edge2) (s : Set7) (t : Nat) : Bool := s t && !l.any (holdB s t)
def nextN (l : List Edge2) (s : Set7) : Nat :=
  if freeB l s 1 then 1 else if freeB l s 2 then 2 else if freeB l s 3 then 3 else if freeB l s 4 then 4 else if freeB l s 5 then 5 else if freeB l s 6 then 6 else 0
theorem next_hit {l : List Edge2} {s : Set7} {t : Nat} (h1 : 1 ≤ t) (h6 : t ≤ 6) (hf : freeB l s t = true) (hb : ∀ j, 1 ≤ j → j < t → freeB l s j = false) : nextN l s = t := by
  unfold nextN
  rcases (show t = 1 ∨ t = 2 ∨ t = 3 ∨ t = 4 ∨ t = 5 ∨ t = 6 by omega) with e | e | e | e | e | e <;> subst e
  · simp [hf]
  · simp [hf, hb 1 (by omega) (by omega)]
  · simp [hf, hb 1 (by omega) (by omega), hb 2 (by omega) (by omega)]
  · simp [hf, hb 1 (by omega) (by omega), hb 2 (by omega) (by omega), hb 3 (by omega) (by omega)]
  · simp [hf, hb 1 (by omega) (by omega), hb 2 (by omega) (by omega), hb 3 (by omega) (by omega), hb 4 (by omega) (by omega)]
  · simp [hf, hb 1 (by omega) (by omega), hb 2 (by omega) (by omega), hb 3 (by omega) (by omega), hb 4 (by omega) (by omega), hb 5 (by omega) (by omega)]
theorem next_none {l : List Edge2} {s : Set7} (hb : ∀ j, 1 ≤ j → j < 7 → freeB l s j = false) : nextN l s = 0 := by
  unfold nextN
  simp [hb 1 (by omega) (by omega), hb 2 (by omega) (by omega), hb 3 (by omega) (by omega), hb 4 (by omega) (by omega), hb 5 (by omega) (by omega), hb 6 (by omega) (by omega)]
theorem next_cases (l : List Edge2) (s : Set7) : (nextN l s = 0 ∧ ∀ j, 1 ≤ j → j < 7 → freeB l s j = false) ∨ (1 ≤ nextN l s ∧ nextN l s ≤ 6 ∧ freeB l s (nextN l s) = true ∧ ∀ j, 1 ≤ j → j < nextN l s → freeB l s j = false) := by
  have hw : (∀ j, 1 ≤ j → j < 7 → freeB l s j = false) ∨ ∃ t, 1 ≤ t ∧ t ≤ 6 ∧ freeB l s t = true ∧ ∀ j, 1 ≤ j → j < t → freeB l s j = false := by
    have : ∀ n, n ≤ 7 → (∀ j, 1 ≤ j → j < n → freeB l s j = false) ∨ ∃ t, 1 ≤ t ∧ t < n ∧ freeB l s t = true ∧ ∀ j, 1 ≤ j → j < t → freeB l s j = false := by
      intro n
      induction n with
      | zero => intro _; exact .inl fun j _ h => absurd h (by omega)
      | succ n ih =>
        intro hn
        rcases ih (by omega) with h | ⟨t, a, b, c⟩
        · by_cases h0 : n = 0
          · exact .inl fun j h1 h2 => absurd h1 (by omega)
          · cases hf : freeB l s n with
            | false =>
              refine .inl fun j h1 h2 => ?_
              rcases Nat.lt_or_ge j n with h' | h'
              · exact h j h1 h'
              · rw [show j = n by omega]; exact hf
            | true => exact .inr ⟨n, by omega, by omega, hf, h⟩
        · exact .inr ⟨t, a, by omega, c⟩
    rcases this 7 (by omega) with h | ⟨t, a, b, c, d⟩
    · exact .inl h
    · exact .inr ⟨t, a, by omega, c, d⟩
  rcases hw with h | ⟨t, a, b, c, d⟩
  · exact .inl ⟨next_none h, h⟩
  · rw [next_hit a b c d]; exact .inr ⟨a, b, c, d⟩
def setS (s : Set7) (t : Nat) (x : Bool) : Set7 := fun k => if k = t then x else s k
/-- How many wait. -/
def cntS (s : Set7) : Nat := (s 0).toNat + (s 1).toNat + (s 2).toNat + (s 3).toNat + (s 4).toNat + (s 5).toNat + (s 6).toNat
def anyS (s : Set7) : Bool := (List.range 7).any s
theorem cnt_set {s : Set7} {t : Nat} (ht : t < 7) (h : s t = true) : cntS (setS s t false) + 1 = cntS s := by
  unfold cntS setS
  rcases (show t = 0 ∨ t = 1 ∨ t = 2 ∨ t = 3 ∨ t = 4 ∨ t = 5 ∨ t = 6 by omega) with e | e | e | e | e | e | e <;> subst e <;> simp [h] <;> omega
theorem cnt_any {s : Set7} (h : anyS s = true) : 0 < cntS s := by
  unfold anyS at h
  obtain ⟨k, hk, hs⟩ := List.any_eq_true.1 h
  have := List.mem_range.1 hk
  unfold cntS
  rcases (show k = 0 ∨ k = 1 ∨ k = 2 ∨ k = 3 ∨ k = 4 ∨ k = 5 ∨ k = 6 by omega) with e | e | e | e | e | e | e <;> subst e <;> rw [hs] <;> simp only [Bool.toNat_true] <;> omega
theorem cnt_le (s : Set7) : cntS s ≤ 7 := by
  unfold cntS
  have h : ∀ b : Bool, b.toNat ≤ 1 := by decide
  have := h (s 0); have := h (s 1); have := h (s 2); have := h (s 3); have := h (s 4); have := h (s 5); have := h (s 6)
  omega
/-- The order, as far as it goes; none: it goes around. -/
def orderGo (l : List Edge2) : Nat → Set7 → List Int → Option (List Int)
  | 0, _, out => some out
  | n + 1, s, out => if anyS s = true then (if nextN l s = 0 then none else orderGo l n (setS s (nextN l s) false) (out ++ [(nextN l s : Int)])) else some out
def orderL (l : List Edge2) : Option (List Int) := orderGo l 7 (namedS l) []
theorem orderGo_end {l : List Edge2} {n : Nat} {s : Set7} {out : List Int} (h : anyS s = false) : orderGo l n s out = some out := by
  cases n with
  | zero => rfl
  | succ n => simp [orderGo, h]
theorem orderGo_stop {l : List Edge2} {n : Nat} {s : Set7} {out : List Int} (hn : cntS s ≤ n) (h : anyS s = true) (h0 : nextN l s = 0) : orderGo l n s out = none := by
  have := cnt_any h
  match n, hn with
  | 0, hn => omega
  | n + 1, _ => simp [orderGo, h, h0]
theorem orderGo_on {l : List Edge2} {n : Nat} {s : Set7} {out : List Int} (hn : cntS s ≤ n) (h : anyS s = true) (h0 : nextN l s ≠ 0) : orderGo l n s out = orderGo l (n - 1) (setS s (nextN l s) false) (out ++ [(nextN l s : Int)]) := by
  have := cnt_any h
  match n, hn with
  | 0, hn => omega
  | n + 1, _ => simp [orderGo, h, h0]
end Go.Proofs.YtmjjiehnjghndaaGreat

namespace Go.Proofs.YtmjjiehnjghndaaGreat

/-- A way of so many edges and one more. -/
def wayN (m : Step7) : Nat → Nat → Nat → Prop
  | 0, x, y => m x y = true
  | n + 1, x, y => ∃ z, m x z = true ∧ wayN m n z y
/-- A way of at least one edge. -/
def Way (m : Step7) (x y : Nat) : Prop := ∃ n, wayN m n x y
theorem Way.one {m : Step7} {x y : Nat} (h : m x y = true) : Way m x y := ⟨0, h⟩
theorem Way.more {m : Step7} {x y z : Nat} (h : m x y = true) (hw : Way m y z) : Way m x z := by
  obtain ⟨n, hn⟩ := hw
  exact ⟨n + 1, y, h, hn⟩
theorem way_ind {m : Step7} {R : Nat → Nat → Prop} (h1 : ∀ x y, m x y = true → R x y) (h2 : ∀ x y z, m x y = true → Way m y z → R y z → R x z) {x y : Nat} (h : Way m x y) : R x y := by
  obtain ⟨n, hn⟩ := h
  induction n generalizing x with
  | zero => exact h1 x y hn
  | succ n ih =>
    obtain ⟨z, hz, hn⟩ := hn
    exact h2 x z y hz ⟨n, hn⟩ (ih hn)
theorem Way.trans {m : Step7} {x y z : Nat} (h : Way m x y) (k : Way m y z) : Way m x z :=
  way_ind (R := fun a b => Way m b z → Way m a z) (fun _ _ h1 k => .more h1 k) (fun _ _ _ h1 _ ih k => .more h1 (ih k)) h k
/-- What was seen ahead, what is seen behind the edges to the first n deals. -/
structure Seen (m : Step7) (x n : Nat) (s r : Set7) : Prop where
  keep : ∀ y, s y = true → r y = true
  way : ∀ y, r y = true → s y = true ∨ Way m x y
  all : ∀ j, j < n → m x j = true → r j = true
  shut : ∀ y, r y = true → s y = false → ∀ z, z < 7 → m y z = true → r z = true
theorem Seen.start (m : Step7) (x : Nat) (s : Set7) : Seen m x 0 s s where
  keep := fun _ h => h
  way := fun _ h => .inl h
  all := fun _ h => absurd h (by omega)
  shut := fun y h h0 => by rw [h] at h0; cases h0
theorem Seen.skip {m : Step7} {x n : Nat} {s r : Set7} (h : Seen m x n s r) (hn : m x n = false ∨ r n = true) : Seen m x (n + 1) s r where
  keep := h.keep
  way := h.way
  all := fun j hj hm => by
    rcases Nat.lt_or_ge j n with h1 | h1
    · exact h.all j h1 hm
    · have e : j = n := by omega
      subst e
      rcases hn with h2 | h2
      · rw [h2] at hm; cases hm
      · exact h2
  shut := h.shut
theorem setS_same (s : Set7) (t : Nat) (x : Bool) : setS s t x t = x := by simp [setS]
theorem setS_other (s : Set7) {t y : Nat} (x : Bool) (h : y ≠ t) : setS s t x y = s y := by simp [setS, h]
theorem Seen.visit {m : Step7} {x n : Nat} {s r q : Set7} (h : Seen m x n s r) (hm : m x n = true) (k : Seen m n 7 (setS r n true) q) : Seen m x (n + 1) s q := by
  have hk : ∀ y, r y = true → q y = true := fun y hy => k.keep y (by
    by_cases e : y = n
    · rw [e, setS_same]
    · rw [setS_other r true e]; exact hy)
  have hn : q n = true := k.keep n (setS_same r n true)
  refine ⟨fun y hy => hk y (h.keep y hy), fun y hy => ?_, fun j hj hj2 => ?_, fun y hy h0 z hz hyz => ?_⟩
  · rcases k.way y hy with h1 | h1
    · by_cases e : y = n
      · exact .inr (.one (e ▸ hm))
      · rw [setS_other r true e] at h1; exact h.way y h1
    · exact .inr (.more hm h1)
  · rcases Nat.lt_or_ge j n with h1 | h1
    · exact hk j (h.all j h1 hj2)
    · rw [show j = n by omega]; exact hn
  · by_cases e : y = n
    · subst e; exact k.all z hz hyz
    · cases hr : r y with
      | true => exact hk z (h.shut y hr h0 z hz hyz)
      | false => exact k.shut y hy (by rw [setS_other r true e]; exact hr) z hz hyz
/-- From nothing seen on: just what there is a way to. -/
theorem seen_way {m : Step7} {x : Nat} {q : Set7} (hm : ∀ y z, m y z = true → z < 7) (h : Seen m x 7 (fun _ => false) q) (y : Nat) : q y = true ↔ Way m x y := by
  constructor
  · intro hy
    rcases h.way y hy with h1 | h1
    · cases h1
    · exact h1
  · intro hw
    have : ∀ a b, Way m a b → (∀ z, m a z = true → q z = true) → q b = true := fun a b hab =>
      way_ind (R := fun a b => (∀ z, m a z = true → q z = true) → q b = true) (fun _ _ e hz => hz _ e) (fun _ _ _ e _ ih hz => ih fun z hyz => h.shut _ (hz _ e) rfl z (hm _ _ hyz) hyz) hab
    exact this x y hw fun z hz => h.all z (hm _ _ hz) hz
theorem steps_lt {l : List Edge2} (hd : ∀ e ∈ l, (1 ≤ e.1 ∧ e.1 ≤ 6) ∧ (1 ≤ e.2 ∧ e.2 ≤ 6)) {y z : Nat} (h : stepsS l y z = true) : (1 ≤ y ∧ y ≤ 6) ∧ (1 ≤ z ∧ z ≤ 6) := by
  unfold stepsS at h
  obtain ⟨e, he, h2⟩ := List.any_eq_true.1 h
  have h3 := hd e he
  simp only [Bool.and_eq_true, beq_iff_eq] at h2
  omega
end Go.Proofs.YtmjjiehnjghndaaGreat

namespace Go.Proofs.YtmjjiehnjghndaaGreat

def lastN (r : List Nat) : Nat := r.getLastD 0
def headN (r : List Nat) : Nat := r.headD 0
/-- May a deal be the next? -/
def okB (m : Step7) (r : List Nat) (t : Nat) : Bool := r.isEmpty || m (lastN r) t
/-- A ring that goes on from a beginning by so many more. -/
def growF (m : Step7) : Nat → List Nat → Option (List Nat)
  | 0, r => if m (lastN r) (headN r) = true then some r else none
  | f + 1, r => [1, 2, 3, 4, 5, 6].findSome? fun t => if okB m r t = true then growF m f (r ++ [t]) else none
theorem okB_cons {m : Step7} {r : List Nat} {t : Nat} (h : r ≠ []) : okB m r t = m (lastN r) t := by
  cases r with
  | nil => exact absurd rfl h
  | cons a l => rfl
/-- Of so many, from nothing on; of the fewest. -/
def ringL (l : List Edge2) : Option (List Nat) := [1, 2, 3, 4, 5, 6].findSome? fun n => growF (stepsS l) n []
theorem growF_some {m : Step7} : ∀ (f : Nat) (r q : List Nat), growF m f r = some q → q.length = r.length + f := by
  intro f
  induction f with
  | zero =>
    intro r q h
    unfold growF at h
    split at h
    · rw [← Option.some.inj h]; rfl
    · cases h
  | succ f ih =>
    intro r q h
    unfold growF at h
    obtain ⟨t, _, h2⟩ := List.exists_of_findSome?_eq_some h
    split at h2
    · have := ih _ _ h2
      simp at this
      omega
    · cases h2
/-- Where it comes from. -/
theorem ring_from {l : List Edge2} {q : List Nat} (h : ringL l = some q) : ∃ n, 1 ≤ n ∧ n ≤ 6 ∧ growF (stepsS l) n [] = some q := by
  unfold ringL at h
  obtain ⟨n, hn, h2⟩ := List.exists_of_findSome?_eq_some h
  exact ⟨n, by simp at hn; omega, by simp at hn; omega, h2⟩
theorem ring_not {l : List Edge2} (h : ringL l = none) (n : Nat) (h1 : 1 ≤ n) (h6 : n ≤ 6) : growF (stepsS l) n [] = none := by
  unfold ringL at h
  rw [List.findSome?_eq_none_iff] at h
  exact h n (by simp; omega)
end Go.Proofs.YtmjjiehnjghndaaGreat

namespace Go.Proofs.YtmjjiehnjghndaaGreat

theorem mem_steps {l : List Edge2} {x y : Nat} (h : stepsS l x y = true) : ((x : Int), (y : Int)) ∈ l := by
  unfold stepsS at h
  obtain ⟨e, he, h2⟩ := List.any_eq_true.1 h
  simp only [Bool.and_eq_true, beq_iff_eq] at h2
  obtain ⟨a, b⟩ := e
  simp only at h2
  rw [h2.1, h2.2] at he
  exact he
theorem steps_mem {l : List Edge2} {x y : Nat} (h : ((x : Int), (y : Int)) ∈ l) : stepsS l x y = true := by
  unfold stepsS
  exact List.any_eq_true.2 ⟨_, h, by simp⟩
/-- Right edges: between deals. -/
def Right (l : List Edge2) : Prop := ∀ e ∈ l, (1 ≤ e.1 ∧ e.1 ≤ 6) ∧ (1 ≤ e.2 ∧ e.2 ≤ 6)
theorem Right.nat {l : List Edge2} (h : Right l) {e : Edge2} (he : e ∈ l) : ∃ x y : Nat, e = ((x : Int), (y : Int)) ∧ (1 ≤ x ∧ x ≤ 6) ∧ (1 ≤ y ∧ y ≤ 6) := by
  obtain ⟨a, b⟩ := e
  have h1 := h _ he
  simp only at h1
  exact ⟨a.toNat, b.toNat, by rw [Int.toNat_of_nonneg (by omega), Int.toNat_of_nonneg (by omega)], by omega, by omega⟩
/-- What an order in the making keeps. -/
structure Made (l : List Edge2) (s : Set7) (out : List Int) : Prop where
  deal : ∀ x ∈ out, ∃ t : Nat, x = (t : Int) ∧ 1 ≤ t ∧ t ≤ 6 ∧ s t = false
  once : out.Nodup
  back : ∀ x y : Nat, ((x : Int), (y : Int)) ∈ l → (y : Int) ∈ out → ∃ i j : Nat, i < j ∧ out[i]? = some (x : Int) ∧ out[j]? = some (y : Int)
  all : ∀ x : Nat, namedS l x = true → s x = true ∨ (x : Int) ∈ out
theorem made_start (l : List Edge2) : Made l (namedS l) [] where
  deal := fun _ h => by cases h
  once := List.nodup_nil
  back := fun _ _ _ h => by cases h
  all := fun _ h => .inl h
theorem named_from {l : List Edge2} {x y : Nat} (h : ((x : Int), (y : Int)) ∈ l) : namedS l x = true := List.any_eq_true.2 ⟨_, h, by simp⟩
theorem named_to {l : List Edge2} {x y : Nat} (h : ((x : Int), (y : Int)) ∈ l) : namedS l y = true := List.any_eq_true.2 ⟨_, h, by simp⟩
theorem free_parts {l : List Edge2} {s : Set7} {t : Nat} (h : freeB l s t = true) : s t = true ∧ ∀ x : Nat, ((x : Int), (t : Int)) ∈ l → s x = false := by
  unfold freeB at h
  simp only [Bool.and_eq_true, Bool.not_eq_true'] at h
  refine ⟨h.1, fun x hx => ?_⟩
  have := List.any_eq_false.1 h.2 _ hx
  simpa [holdB] using this
theorem Made.next {l : List Edge2} {s : Set7} {out : List Int} (h : Made l s out) {t : Nat} (h1 : 1 ≤ t) (h6 : t ≤ 6) (hf : freeB l s t = true) : Made l (setS s t false) (out ++ [(t : Int)]) := by
  obtain ⟨hs, hfree⟩ := free_parts hf
  have hnot : (t : Int) ∉ out := fun hm => by
    obtain ⟨u, hu, _, _, hsu⟩ := h.deal _ hm
    have : t = u := by omega
    subst this
    rw [hs] at hsu; cases hsu
  refine ⟨fun x hx => ?_, ?_, fun x y he hy => ?_, fun x hx => ?_⟩
  · rcases List.mem_append.1 hx with hx | hx
    · obtain ⟨u, hu, a, b, c⟩ := h.deal x hx
      refine ⟨u, hu, a, b, ?_⟩
      by_cases e : u = t
      · rw [e, setS_same]
      · rw [setS_other s false e]; exact c
    · rw [List.mem_singleton.1 hx]
      exact ⟨t, rfl, h1, h6, setS_same s t false⟩
  · rw [List.nodup_append]
    refine ⟨h.once, by simp, fun a ha b hb => ?_⟩
    rw [List.mem_singleton.1 hb]
    exact fun e => hnot (e ▸ ha)
  · by_cases hyo : (y : Int) ∈ out
    · obtain ⟨i, j, hij, hi, hj⟩ := h.back x y he hyo
      have hjl := (List.getElem?_eq_some_iff.1 hj).1
      exact ⟨i, j, hij, by rw [List.getElem?_append_left (by omega)]; exact hi, by rw [List.getElem?_append_left hjl]; exact hj⟩
    · have hyt : y = t := by
        rcases List.mem_append.1 hy with hy | hy
        · exact absurd hy hyo
        · have := List.mem_singleton.1 hy; omega
      subst hyt
      have hx0 := hfree x he
      have hxo : (x : Int) ∈ out := by
        rcases h.all x (named_from he) with hh | hh
        · rw [hx0] at hh; cases hh
        · exact hh
      obtain ⟨i, hi⟩ := List.getElem?_of_mem hxo
      have hil := (List.getElem?_eq_some_iff.1 hi).1
      exact ⟨i, out.length, hil, by rw [List.getElem?_append_left hil]; exact hi, by simp⟩
  · rcases h.all x hx with hh | hh
    · by_cases e : x = t
      · exact .inr (by rw [e]; simp)
      · exact .inl (by rw [setS_other s false e]; exact hh)
    · exact .inr (List.mem_append_left _ hh)
/-- Where nobody is next though some wait, each that waits is held by one that waits. -/
def Stuck (l : List Edge2) (s : Set7) : Prop := (∃ t : Nat, 1 ≤ t ∧ t ≤ 6 ∧ s t = true) ∧ ∀ t : Nat, 1 ≤ t → t ≤ 6 → s t = true → ∃ x : Nat, 1 ≤ x ∧ x ≤ 6 ∧ s x = true ∧ ((x : Int), (t : Int)) ∈ l
theorem order_goes {l : List Edge2} (hr : Right l) : ∀ (n : Nat) (s : Set7) (out : List Int), cntS s ≤ n → (∀ k, s k = true → 1 ≤ k ∧ k ≤ 6) → Made l s out →
    (∃ o s', orderGo l n s out = some o ∧ Made l s' o ∧ anyS s' = false) ∨ (orderGo l n s out = none ∧ ∃ s', Stuck l s') := by
  intro n
  induction n with
  | zero =>
    intro s out hn hs hm
    refine .inl ⟨out, s, rfl, hm, ?_⟩
    cases h : anyS s with
    | false => rfl
    | true => have := cnt_any h; omega
  | succ n ih =>
    intro s out hn hs hm
    cases h : anyS s with
    | false => exact .inl ⟨out, s, orderGo_end h, hm, h⟩
    | true =>
      rcases next_cases l s with ⟨h0, hnone⟩ | ⟨h1, h6, hf, _⟩
      · refine .inr ⟨orderGo_stop hn h h0, s, ?_, fun t a b hst => ?_⟩
        · unfold anyS at h
          obtain ⟨k, _, hk⟩ := List.any_eq_true.1 h
          exact ⟨k, (hs k hk).1, (hs k hk).2, hk⟩
        · have hft := hnone t a (by omega)
          unfold freeB at hft
          rw [hst, Bool.true_and, Bool.not_eq_false'] at hft
          obtain ⟨e, he, he2⟩ := List.any_eq_true.1 hft
          obtain ⟨x, y, rfl, hx, hy⟩ := hr.nat he
          simp only [holdB, Bool.and_eq_true, beq_iff_eq, Int.toNat_natCast] at he2
          have : y = t := by omega
          subst this
          exact ⟨x, hx.1, hx.2, he2.2, he⟩
      · have hst := (free_parts hf).1
        rw [orderGo_on hn h (by omega)]
        have hc := cnt_set (s := s) (t := nextN l s) (by omega) hst
        refine ih _ _ (by omega) (fun k hk => ?_) (hm.next h1 h6 hf)
        by_cases e : k = nextN l s
        · rw [e, setS_same] at hk; cases hk
        · rw [setS_other s false e] at hk; exact hs k hk
theorem named_right {l : List Edge2} (hr : Right l) (k : Nat) (h : namedS l k = true) : 1 ≤ k ∧ k ≤ 6 := by
  unfold namedS at h
  obtain ⟨e, he, h2⟩ := List.any_eq_true.1 h
  obtain ⟨x, y, rfl, hx, hy⟩ := hr.nat he
  simp only [Bool.or_eq_true, beq_iff_eq] at h2
  omega
/-- In an order each stands behind those from which an edge leads to it. -/
structure IsOrder (l : List Edge2) (o : List Int) : Prop where
  deal : ∀ x ∈ o, ∃ t : Nat, x = (t : Int) ∧ 1 ≤ t ∧ t ≤ 6
  once : o.Nodup
  back : ∀ x y : Nat, ((x : Int), (y : Int)) ∈ l → ∃ i j : Nat, i < j ∧ o[i]? = some (x : Int) ∧ o[j]? = some (y : Int)
theorem order_either {l : List Edge2} (hr : Right l) : (∃ o, orderL l = some o ∧ IsOrder l o) ∨ (orderL l = none ∧ ∃ s, Stuck l s) := by
  rcases order_goes hr 7 (namedS l) [] (cnt_le _) (named_right hr) (made_start l) with ⟨o, s', h1, h2, h3⟩ | ⟨h1, h2⟩
  · refine .inl ⟨o, h1, fun x hx => ?_, h2.once, fun x y he => h2.back x y he ?_⟩
    · obtain ⟨t, a, b, c, _⟩ := h2.deal x hx
      exact ⟨t, a, b, c⟩
    · rcases h2.all y (named_to he) with hh | hh
      · have := named_right hr y (named_to he)
        unfold anyS at h3
        have := List.any_eq_false.1 h3 y (List.mem_range.2 (by omega))
        rw [hh] at this
        simp at this
      · exact hh
  · exact .inr ⟨h1, h2⟩
theorem nodup_at : ∀ {o : List Int}, o.Nodup → ∀ {i j : Nat} {x : Int}, o[i]? = some x → o[j]? = some x → i = j := by
  intro o
  induction o with
  | nil => intro _ i j x h; simp at h
  | cons a t ih =>
    intro hn i j x h k
    obtain ⟨ha, ht⟩ := List.nodup_cons.1 hn
    match i, j, h, k with
    | 0, 0, _, _ => rfl
    | 0, j + 1, h, k =>
      have e : a = x := by simpa using h
      have := List.mem_of_getElem? (show t[j]? = some x by simpa using k)
      exact absurd (e ▸ this) ha
    | i + 1, 0, h, k =>
      have e : a = x := by simpa using k
      have := List.mem_of_getElem? (show t[i]? = some x by simpa using h)
      exact absurd (e ▸ this) ha
    | i + 1, j + 1, h, k => rw [ih ht (show t[i]? = some x by simpa using h) (show t[j]? = some x by simpa using k)]
/-- Along a way places rise. -/
theorem way_rise {l : List Edge2} {o : List Int} (ho : IsOrder l o) {x y : Nat} (h : Way (stepsS l) x y) : ∃ i j : Nat, i < j ∧ o[i]? = some (x : Int) ∧ o[j]? = some (y : Int) := by
  refine way_ind (R := fun x y => ∃ i j : Nat, i < j ∧ o[i]? = some (x : Int) ∧ o[j]? = some (y : Int)) (fun _ _ h => ho.back _ _ (mem_steps h)) (fun _ _ _ h _ ih => ?_) h
  obtain ⟨i, j, hij, hi, hj⟩ := ho.back _ _ (mem_steps h)
  obtain ⟨i', j', hij', hi', hj'⟩ := ih
  have e : j = i' := nodup_at ho.once hj hi'
  exact ⟨i, j', by omega, hi, hj'⟩
theorem no_round {l : List Edge2} {o : List Int} (ho : IsOrder l o) (x : Nat) : ¬ Way (stepsS l) x x := by
  intro h
  obtain ⟨i, j, hij, hi, hj⟩ := way_rise ho h
  have := nodup_at ho.once hi hj
  omega

/-- One behind the other edges lead. -/
def lin (m : Step7) : List Nat → Bool
  | [] => true
  | x :: t => (match t with | [] => true | y :: _ => m x y) && lin m t
theorem lin_cons (m : Step7) (x y : Nat) (t : List Nat) : lin m (x :: y :: t) = (m x y && lin m (y :: t)) := rfl
theorem lin_right {m : Step7} : ∀ {a b : List Nat}, lin m (a ++ b) = true → lin m b = true := by
  intro a
  induction a with
  | nil => intro b h; exact h
  | cons x t ih =>
    intro b h
    simp only [List.cons_append, lin, Bool.and_eq_true] at h
    exact ih h.2
theorem lin_left {m : Step7} : ∀ {a b : List Nat}, lin m (a ++ b) = true → lin m a = true := by
  intro a
  induction a with
  | nil => intro b _; rfl
  | cons x t ih =>
    intro b h
    cases t with
    | nil => rfl
    | cons y t =>
      simp only [List.cons_append] at h ih ⊢
      rw [lin_cons, Bool.and_eq_true] at h ⊢
      exact ⟨h.1, ih h.2⟩
theorem lin_at {m : Step7} : ∀ {r : List Nat} {i : Nat}, lin m r = true → i + 1 < r.length → m (r.getD i 0) (r.getD (i + 1) 0) = true := by
  intro r
  induction r with
  | nil => intro i _ h; simp at h
  | cons x t ih =>
    intro i h hi
    cases t with
    | nil => simp at hi
    | cons y t =>
      rw [lin_cons, Bool.and_eq_true] at h
      cases i with
      | zero => simpa using h.1
      | succ i =>
        have := ih h.2 (show i + 1 < (y :: t).length by simpa using hi)
        simpa using this
theorem lin_way {m : Step7} {r : List Nat} (h : lin m r = true) (i : Nat) : ∀ d, i + d + 1 < r.length → Way m (r.getD i 0) (r.getD (i + d + 1) 0) := by
  intro d
  induction d with
  | zero => intro hd; exact .one (lin_at h hd)
  | succ d ih => intro hd; exact (ih (by omega)).trans (.one (lin_at h (by omega)))
theorem lin_snoc {m : Step7} {a : List Nat} {t : Nat} (h : lin m a = true) (ho : okB m a t = true) : lin m (a ++ [t]) = true := by
  induction a with
  | nil => rfl
  | cons x b ih =>
    cases b with
    | nil =>
      show lin m [x, t] = true
      rw [lin_cons, Bool.and_eq_true]
      exact ⟨ho, rfl⟩
    | cons y b =>
      simp only [List.cons_append] at ih ⊢
      rw [lin_cons, Bool.and_eq_true] at h ⊢
      exact ⟨h.1, ih h.2 ho⟩
theorem lin_ok {m : Step7} {a b : List Nat} {t : Nat} (h : lin m (a ++ t :: b) = true) : okB m a t = true := by
  induction a with
  | nil => rfl
  | cons x c ih =>
    cases c with
    | nil =>
      simp only [List.cons_append, List.nil_append] at h
      rw [lin_cons, Bool.and_eq_true] at h
      exact h.1
    | cons y c =>
      simp only [List.cons_append] at h ih
      rw [lin_cons, Bool.and_eq_true] at h
      exact ih h.2
/-- A ring: edges lead around. -/
structure IsRing (m : Step7) (r : List Nat) : Prop where
  deal : ∀ k ∈ r, 1 ≤ k ∧ k ≤ 6
  line : lin m r = true
  shut : m (lastN r) (headN r) = true
theorem grow_sound {m : Step7} : ∀ (f : Nat) (p r : List Nat), growF m f p = some r → lin m p = true → (∀ k ∈ p, 1 ≤ k ∧ k ≤ 6) → IsRing m r := by
  intro f
  induction f with
  | zero =>
    intro p r h hp hd
    unfold growF at h
    split at h
    · rename_i hm
      have e := Option.some.inj h
      subst e
      exact ⟨hd, hp, hm⟩
    · cases h
  | succ f ih =>
    intro p r h hp hd
    unfold growF at h
    obtain ⟨t, ht, h2⟩ := List.exists_of_findSome?_eq_some h
    split at h2
    · rename_i ho
      refine ih _ _ h2 (lin_snoc hp ho) fun k hk => ?_
      rcases List.mem_append.1 hk with hk | hk
      · exact hd k hk
      · rw [List.mem_singleton.1 hk]
        simp at ht
        omega
    · cases h2
theorem grow_full {m : Step7} {r : List Nat} (hr : IsRing m r) : ∀ (q p : List Nat), r = p ++ q → growF m q.length p ≠ none := by
  intro q
  induction q with
  | nil =>
    intro p hp hno
    rw [List.append_nil] at hp
    subst hp
    simp [growF, hr.shut] at hno
  | cons t q ih =>
    intro p hp hno
    have hl := hr.line
    rw [hp] at hl
    have ho := lin_ok hl
    have hd := hr.deal t (by rw [hp]; simp)
    rw [List.length_cons] at hno
    unfold growF at hno
    rw [List.findSome?_eq_none_iff] at hno
    have h2 := hno t (by simp; omega)
    rw [if_pos ho] at h2
    exact ih (p ++ [t]) (by rw [hp]; simp) h2
theorem stuck_chain {l : List Edge2} {s : Set7} (h : Stuck l s) : ∀ n, ∃ r : List Nat, r.length = n + 1 ∧ (∀ k ∈ r, (1 ≤ k ∧ k ≤ 6) ∧ s k = true) ∧ lin (stepsS l) r = true := by
  intro n
  induction n with
  | zero =>
    obtain ⟨t, a, b, c⟩ := h.1
    exact ⟨[t], rfl, fun k hk => by rw [List.mem_singleton.1 hk]; exact ⟨⟨a, b⟩, c⟩, rfl⟩
  | succ n ih =>
    obtain ⟨r, hl, hd, hlin⟩ := ih
    match r, hl, hd, hlin with
    | y :: q, hl, hd, hlin =>
      have hy := hd y (List.mem_cons_self ..)
      obtain ⟨x, a, b, c, d⟩ := h.2 y hy.1.1 hy.1.2 hy.2
      refine ⟨x :: y :: q, by rw [List.length_cons, hl], fun k hk => ?_, by rw [lin_cons, steps_mem d, hlin]; rfl⟩
      rcases List.mem_cons.1 hk with rfl | hk
      · exact ⟨⟨a, b⟩, c⟩
      · exact hd k hk
theorem dup_split : ∀ r : List Nat, ¬ r.Nodup → ∃ (a b c : List Nat) (x : Nat), r = a ++ (x :: b ++ x :: c) := by
  intro r
  induction r with
  | nil => intro h; exact absurd List.nodup_nil h
  | cons z t ih =>
    intro h
    by_cases hz : z ∈ t
    · obtain ⟨b, c, rfl⟩ := List.append_of_mem hz
      exact ⟨[], b, c, z, rfl⟩
    · obtain ⟨a, b, c, x, rfl⟩ := ih fun hn => h (List.nodup_cons.2 ⟨hz, hn⟩)
      exact ⟨z :: a, b, c, x, rfl⟩
def setOf : List Nat → Set7
  | [] => fun _ => false
  | t :: r => setS (setOf r) t true
theorem setOf_not : ∀ (r : List Nat) (k : Nat), k ∉ r → setOf r k = false := by
  intro r
  induction r with
  | nil => intro k _; rfl
  | cons t r ih =>
    intro k hk
    have h1 : k ≠ t := fun e => hk (by rw [e]; exact List.mem_cons_self ..)
    show setS (setOf r) t true k = false
    rw [setS_other _ _ h1]
    exact ih k fun h => hk (List.mem_cons_of_mem _ h)
theorem nodup_short : ∀ r : List Nat, r.Nodup → (∀ k ∈ r, 1 ≤ k ∧ k ≤ 6) → cntS (setOf r) = r.length := by
  intro r
  induction r with
  | nil => intro _ _; rfl
  | cons t r ih =>
    intro hn hd
    obtain ⟨h1, h2⟩ := List.nodup_cons.1 hn
    have ht := hd t (List.mem_cons_self ..)
    have hf : setOf r t = false := setOf_not r t h1
    have h3 := cnt_set (s := setS (setOf r) t true) (t := t) (by omega) (setS_same _ _ _)
    have h4 : setS (setS (setOf r) t true) t false = setOf r := funext fun k => by
      by_cases e : k = t
      · rw [e, setS_same, hf]
      · rw [setS_other _ _ e, setS_other _ _ e]
    rw [h4, ih h2 fun k hk => hd k (List.mem_cons_of_mem _ hk)] at h3
    show cntS (setS (setOf r) t true) = r.length + 1
    omega
theorem cnt_six {s : Set7} (h : s 0 = false) : cntS s ≤ 6 := by
  unfold cntS
  rw [h]
  have hb : ∀ b : Bool, b.toNat ≤ 1 := by decide
  have := hb (s 1); have := hb (s 2); have := hb (s 3); have := hb (s 4); have := hb (s 5); have := hb (s 6)
  simp only [Bool.toNat_false]
  omega
theorem stuck_ring {l : List Edge2} {s : Set7} (h : Stuck l s) : ∃ r, IsRing (stepsS l) r ∧ 1 ≤ r.length ∧ r.length ≤ 6 := by
  obtain ⟨r, hl, hd, hlin⟩ := stuck_chain h 6
  have hn : ¬ r.Nodup := fun hn => by
    have h1 := nodup_short r hn fun k hk => (hd k hk).1
    have h2 := cnt_six (s := setOf r) (setOf_not r 0 fun h0 => by have := (hd 0 h0).1; omega)
    omega
  obtain ⟨a, b, c, x, rfl⟩ := dup_split r hn
  have h1 := lin_right hlin
  have h2 : okB (stepsS l) (x :: b) x = true := lin_ok h1
  rw [okB_cons (by simp)] at h2
  refine ⟨x :: b, ⟨fun k hk => (hd k (List.mem_append_right _ (List.mem_append_left _ hk))).1, lin_left h1, h2⟩, by simp, ?_⟩
  simp only [List.length_append, List.length_cons] at hl ⊢
  omega
theorem last_at (r : List Nat) : lastN r = r.getD (r.length - 1) 0 := by
  simp [lastN, List.getLastD_eq_getLast?, List.getLast?_eq_getElem?, List.getD]
theorem head_at (r : List Nat) : headN r = r.getD 0 0 := by cases r <;> rfl
/-- Around a ring there is a way from each to itself. -/
theorem IsRing.round {m : Step7} {r : List Nat} (h : IsRing m r) (i : Nat) (hi : i < r.length) : Way m (r.getD i 0) (r.getD i 0) := by
  have hs : Way m (r.getD (r.length - 1) 0) (r.getD 0 0) := .one (by rw [← last_at r, ← head_at]; exact h.shut)
  have h1 : i < r.length - 1 → Way m (r.getD i 0) (r.getD (r.length - 1) 0) := fun hlt => by
    have := lin_way h.line i (r.length - 1 - i - 1) (by omega)
    rwa [show i + (r.length - 1 - i - 1) + 1 = r.length - 1 by omega] at this
  have h2 : 0 < i → Way m (r.getD 0 0) (r.getD i 0) := fun hlt => by
    have := lin_way h.line 0 (i - 1) (by omega)
    rwa [show 0 + (i - 1) + 1 = i by omega] at this
  have h3 : Way m (r.getD i 0) (r.getD 0 0) := by
    rcases Nat.lt_or_ge i (r.length - 1) with hlt | hge
    · exact (h1 hlt).trans hs
    · rw [show i = r.length - 1 by omega]; exact hs
  rcases Nat.eq_zero_or_pos i with h0 | h0
  · rw [h0] at h3 ⊢; exact h3
  · exact h3.trans (h2 h0)
theorem IsRing.edge {m : Step7} {r : List Nat} (h : IsRing m r) (i : Nat) (hi : i < r.length) : m (r.getD i 0) (r.getD ((i + 1) % r.length) 0) = true := by
  rcases Nat.lt_or_ge (i + 1) r.length with hlt | hge
  · rw [Nat.mod_eq_of_lt hlt]; exact lin_at h.line hlt
  · have e : i + 1 = r.length := by omega
    rw [e, Nat.mod_self, show i = r.length - 1 by omega, ← last_at r, ← head_at]
    exact h.shut
/-- An order, or a ring: just one of both. -/
theorem graph_either {l : List Edge2} (hr : Right l) : (∃ o, orderL l = some o ∧ IsOrder l o ∧ ringL l = none) ∨ (orderL l = none ∧ ∃ r, ringL l = some r ∧ IsRing (stepsS l) r ∧ 1 ≤ r.length ∧ r.length ≤ 6) := by
  have hsound : ∀ r, ringL l = some r → IsRing (stepsS l) r ∧ 1 ≤ r.length ∧ r.length ≤ 6 := fun r h => by
    obtain ⟨n, h1, h6, h2⟩ := ring_from h
    have := growF_some n [] r h2
    simp at this
    exact ⟨grow_sound n [] r h2 rfl (fun k hk => by cases hk), by omega, by omega⟩
  rcases order_either hr with ⟨o, h1, h2⟩ | ⟨h1, s, hs⟩
  · refine .inl ⟨o, h1, h2, ?_⟩
    cases hq : ringL l with
    | none => rfl
    | some r =>
      obtain ⟨h3, h4, _⟩ := hsound r hq
      exact absurd (h3.round 0 (by omega)) (no_round h2 _)
  · refine .inr ⟨h1, ?_⟩
    obtain ⟨q, hq, hq1, hq6⟩ := stuck_ring hs
    cases hr2 : ringL l with
    | none =>
      have h3 := ring_not hr2 q.length hq1 hq6
      exact absurd h3 (grow_full hq q [] rfl)
    | some r => exact ⟨r, rfl, hsound r hr2⟩
end Go.Proofs.YtmjjiehnjghndaaGreat
