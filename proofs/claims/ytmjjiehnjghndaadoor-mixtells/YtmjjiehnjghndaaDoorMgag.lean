/-
  PROVED HERE: plain facts, with no word of the program: rings of so many that go on from a beginning, the first by numbers.
  Conditions: none.
  (Of these, what the claim wants: the rest was left out.)
  PROVED HERE: plain facts, with no word of the program: edges have an order of the kind that the program makes just if they have no ring; in an order each deal stands behind those from which an edge leads to it; around a ring edges lead.
  Conditions: none.
  (Of these, what the claim wants: the rest was left out.)
-/
import Derived.Test.YtmjjiehnjghndaaDoorMgaf
namespace Go.Proofs.YtmjjiehnjghndaaDoor

def lastN (r : List Nat) : Nat := r.getLastD 0
def headN (r : List Nat) : Nat := r.headD 0
end Go.Proofs.YtmjjiehnjghndaaDoor

namespace Go.Proofs.YtmjjiehnjghndaaDoor

/-- Right edges: between deals. -/
def Right (l : List Edge2) : Prop := ∀ e ∈ l, (1 ≤ e.1 ∧ e.1 ≤ 6) ∧ (1 ≤ e.2 ∧ e.2 ≤ 6)
theorem Right.nat {l : List Edge2} (h : Right l) {e : Edge2} (he : e ∈ l) : ∃ x y : Nat, e = ((x : Int), (y : Int)) ∧ (1 ≤ x ∧ x ≤ 6) ∧ (1 ≤ y ∧ y ≤ 6) := by
  obtain ⟨a, b⟩ := e
  have h1 := h _ he
  simp only at h1
  exact ⟨a.toNat, b.toNat, by rw [Int.toNat_of_nonneg (by omega), Int.toNat_of_nonneg (by omega)], by omega, by omega⟩
/-- What an order in the making keeps. -/
structure Made (l : List Edge2) (s : Set7) (out : List Int) : Prop where
  deal : ∀ x ∈ out, ∃ t : Nat, x = (t : Int) ∧ 1 ≤ t ∧ t ≤ 6 ∧ s t = false
  once : out.Nodup
  back : ∀ x y : Nat, ((x : Int), (y : Int)) ∈ l → (y : Int) ∈ out → ∃ i j : Nat, i < j ∧ out[i]? = some (x : Int) ∧ out[j]? = some (y : Int)
  all : ∀ x : Nat, namedS l x = true → s x = true ∨ (x : Int) ∈ out
theorem named_from {l : List Edge2} {x y : Nat} (h : ((x : Int), (y : Int)) ∈ l) : namedS l x = true := List.any_eq_true.2 ⟨_, h, by simp⟩
theorem named_to {l : List Edge2} {x y : Nat} (h : ((x : Int), (y : Int)) ∈ l) : namedS l y = true := List.any_eq_true.2 ⟨_, h, by simp⟩
theorem free_parts {l : List Edge2} {s : Set7} {t : Nat} (h : freeB l s t = true) : s t = true ∧ ∀ x : Nat, ((x : Int), (t : Int)) ∈ l → s x = false := by
  unfold freeB at h
  simp only [Bool.and_eq_true, Bool.not_eq_true'] at h
  refine ⟨h.1, fun x hx => ?_⟩
  have := List.any_eq_false.1 h.2 _ hx
  simpa [holdB] using this
theorem Made.next {l : List Edge2} {s : Set7} {out : List Int} (h : Made l s out) {t : Nat} (h1 : 1 ≤ t) (h6 : t ≤ 6) (hf : freeB l s t = true) : Made l (setS s t false) (out ++ [(t : Int)]) := by
  obtain ⟨hs, hfree⟩ := free_parts hf
  have hnot : (t : Int) ∉ out := fun hm => by
    obtain ⟨u, hu, _, _, hsu⟩ := h.deal _ hm
    have : t = u := by omega
    subst this
    rw [hs] at hsu; cases hsu
  refine ⟨fun x hx => ?_, ?_, fun x y he hy => ?_, fun x hx => ?_⟩
  · rcases List.mem_append.1 hx with hx | hx
    · obtain ⟨u, hu, a, b, c⟩ := h.deal x hx
      refine ⟨u, hu, a, b, ?_⟩
      by_cases e : u = t
      · rw [e, setS_same]
      · rw [setS_other s false e]; exact c
    · rw [List.mem_singleton.1 hx]
      exact ⟨t, rfl, h1, h6, setS_same s t false⟩
  · rw [List.nodup_append]
    refine ⟨h.once, by simp, fun a ha b hb => ?_⟩
    rw [List.mem_singleton.1 hb]
    exact fun e => hnot (e ▸ ha)
  · by_cases hyo : (y : Int) ∈ out
    · obtain ⟨i, j, hij, hi, hj⟩ := h.back x y he hyo
      have hjl := (List.getElem?_eq_some_iff.1 hj).1
      exact ⟨i, j, hij, by rw [List.getElem?_append_left (by omega)]; exact hi, by rw [List.getElem?_append_left hjl]; exact hj⟩
    · have hyt : y = t := by
        rcases List.mem_append.1 hy with hy | hy
        · exact absurd hy hyo
        · have := List.mem_singleton.1 hy; omega
      subst hyt
      have hx0 := hfree x he
      have hxo : (x : Int) ∈ out := by
        rcases h.all x (named_from he) with hh | hh
        · rw [hx0] at hh; cases hh
        · exact hh
      obtain ⟨i, hi⟩ := List.getElem?_of_mem hxo
      have hil := (List.getElem?_eq_some_iff.1 hi).1
      exact ⟨i, out.length, hil, by rw [List.getElem?_append_left hil]; exact hi, by simp⟩
  · rcases h.all x hx with hh | hh
    · by_cases e : x = t
      · exact .inr (by rw [e]; simp)
      · exact .inl (by rw [setS_other s false e]; exact hh)
    · exact .inr (List.mem_append_left _ hh)
theorem named_right {l : List Edge2} (hr : Right l) (k : Nat) (h : namedS l k = true) : 1 ≤ k ∧ k ≤ 6 := by
  unfold namedS at h
  obtain ⟨e, he, h2⟩ := List.any_eq_true.1 h
  obtain ⟨x, y, rfl, hx, hy⟩ := hr.nat he
  simp only [Bool.or_eq_true, beq_iff_eq] at h2
  omega
/-- One behind the other edges lead. -/
def lin (m : Step7) : List Nat → Bool
  | [] => true
  | x :: t => (match t with | [] => true | y :: _ => m x y) && lin m t
theorem lin_cons (m : Step7) (x y : Nat) (t : List Nat) : lin m (x :: y :: t) = (m x y && lin m (y :: t)) := rfl
theorem lin_at {m : Step7} : ∀ {r : List Nat} {i : Nat}, lin m r = true → i + 1 < r.length → m (r.getD i 0) (r.getD (i + 1) 0) = true := by
  intro r
  induction r with
  | nil => intro i _ h; simp at h
  | cons x t ih =>
    intro i h hi
    cases t with
    | nil => simp at hi
    | cons y t =>
      rw [lin_cons, Bool.and_eq_true] at h
      cases i with
      | zero => simpa using h.1
      | succ i =>
        have := ih h.2 (show i + 1 < (y :: t).length by simpa using hi)
        simpa using this
theorem lin_way {m : Step7} {r : List Nat} (h : lin m r = true) (i : Nat) : ∀ d, i + d + 1 < r.length → Way m (r.getD i 0) (r.getD (i + d + 1) 0) := by
  intro d
  induction d with
  | zero => intro hd; exact .one (lin_at h hd)
  | succ d ih => intro hd; exact (ih (by omega)).trans (.one (lin_at h (by omega)))
/-- A ring: edges lead around. -/
structure IsRing (m : Step7) (r : List Nat) : Prop where
  deal : ∀ k ∈ r, 1 ≤ k ∧ k ≤ 6
  line : lin m r = true
  shut : m (lastN r) (headN r) = true
def setOf : List Nat → Set7
  | [] => fun _ => false
  | t :: r => setS (setOf r) t true
theorem setOf_not : ∀ (r : List Nat) (k : Nat), k ∉ r → setOf r k = false := by
  intro r
  induction r with
  | nil => intro k _; rfl
  | cons t r ih =>
    intro k hk
    have h1 : k ≠ t := fun e => hk (by rw [e]; exact List.mem_cons_self ..)
    show setS (setOf r) t true k = false
    rw [setS_other _ _ h1]
    exact ih k fun h => hk (List.mem_cons_of_mem _ h)
theorem nodup_short : ∀ r : List Nat, r.Nodup → (∀ k ∈ r, 1 ≤ k ∧ k ≤ 6) → cntS (setOf r) = r.length := by
  intro r
  induction r with
  | nil => intro _ _; rfl
  | cons t r ih =>
    intro hn hd
    obtain ⟨h1, h2⟩ := List.nodup_cons.1 hn
    have ht := hd t (List.mem_cons_self ..)
    have hf : setOf r t = false := setOf_not r t h1
    have h3 := cnt_set (s := setS (setOf r) t true) (t := t) (by omega) (setS_same _ _ _)
    have h4 : setS (setS (setOf r) t true) t false = setOf r := funext fun k => by
      by_cases e : k = t
      · rw [e, setS_same, hf]
      · rw [setS_other _ _ e, setS_other _ _ e]
    rw [h4, ih h2 fun k hk => hd k (List.mem_cons_of_mem _ hk)] at h3
    show cntS (setS (setOf r) t true) = r.length + 1
    omega
theorem last_at (r : List Nat) : lastN r = r.getD (r.length - 1) 0 := by
  simp [lastN, List.getLastD_eq_getLast?, List.getLast?_eq_getElem?, List.getD]
theorem head_at (r : List Nat) : headN r = r.getD 0 0 := by cases r <;> rfl
/-- Around a ring there is a way from each to itself. -/
theorem IsRing.round {m : Step7} {r : List Nat} (h : IsRing m r) (i : Nat) (hi : i < r.length) : Way m (r.getD i 0) (r.getD i 0) := by
  have hs : Way m (r.getD (r.length - 1) 0) (r.getD 0 0) := .one (by rw [← last_at r, ← head_at]; exact h.shut)
  have h1 : i < r.length - 1 → Way m (r.getD i 0) (r.getD (r.length - 1) 0) := fun hlt => by
    have := lin_way h.line i (r.length - 1 - i - 1) (by omega)
    rwa [show i + (r.length - 1 - i - 1) + 1 = r.length - 1 by omega] at this
  have h2 : 0 < i → Way m (r.getD 0 0) (r.getD i 0) := fun hlt => by
    have := lin_way h.line 0 (i - 1) (by omega)
    rwa [show 0 + (i - 1) + 1 = i by omega] at this
  have h3 : Way m (r.getD i 0) (r.getD 0 0) := by
    rcases Nat.lt_or_ge i (r.length - 1) with hlt | hge
    · exact (h1 hlt).trans hs
    · rw [show i = r.length - 1 by omega]; exact hs
  rcases Nat.eq_zero_or_pos i with h0 | h0
  · rw [h0] at h3 ⊢; exact h3
  · exact h3.trans (h2 h0)
theorem IsRing.edge {m : Step7} {r : List Nat} (h : IsRing m r) (i : Nat) (hi : i < r.length) : m (r.getD i 0) (r.getD ((i + 1) % r.length) 0) = true := by
  rcases Nat.lt_or_ge (i + 1) r.length with hlt | hge
  · rw [Nat.mod_eq_of_lt hlt]; exact lin_at h.line hlt
  · have e : i + 1 = r.length := by omega
    rw [e, Nat.mod_self, show i = r.length - 1 by omega, ← last_at r, ← head_at]
    exact h.shut
end Go.Proofs.YtmjjiehnjghndaaDoor
