/-
  PROVED HERE: plain facts, with no word of the program: ways of at least one edge; what going along all edges from a deal on, once to each, sees.
  Conditions: none.
-/
import Derived.Test.YtjcaekhkeobhpahDoorGraphPlain2
namespace Go.Proofs.YtjcaekhkeobhpahDoor

/-- A way of so many edges and one more. -/
def wayN (m : Step7) : Nat → Nat → Nat → Prop
  | 0, x, y => m x y = true
  | n + 1, x, y => ∃ z, m x z = true ∧ wayN m n z y
/-- A way of at least one edge. -/
def Way (m : Step7) (x y : Nat) : Prop := ∃ n, wayN m n x y
theorem Way.one {m : Step7} {x y : Nat} (h : m x y = true) : Way m x y := ⟨0, h⟩
theorem Way.more {m : Step7} {x y z : Nat} (h : m x y = true) (hw : Way m y z) : Way m x z := by
  obtain ⟨n, hn⟩ := hw
  exact ⟨n + 1, y, h, hn⟩
theorem way_ind {m : Step7} {R : Nat → Nat → Prop} (h1 : ∀ x y, m x y = true → R x y) (h2 : ∀ x y z, m x y = true → Way m y z → R y z → R x z) {x y : Nat} (h : Way m x y) : R x y := by
  obtain ⟨n, hn⟩ := h
  induction n generalizing x with
  | zero => exact h1 x y hn
  | succ n ih =>
    obtain ⟨z, hz, hn⟩ := hn
    exact h2 x z y hz ⟨n, hn⟩ (ih hn)
theorem Way.trans {m : Step7} {x y z : Nat} (h : Way m x y) (k : Way m y z) : Way m x z :=
  way_ind (R := fun a b => Way m b z → Way m a z) (fun _ _ h1 k => .more h1 k) (fun _ _ _ h1 _ ih k => .more h1 (ih k)) h k
/-- What was seen ahead, what is seen behind the edges to the first n deals. -/
structure Seen (m : Step7) (x n : Nat) (s r : Set7) : Prop where
  keep : ∀ y, s y = true → r y = true
  way : ∀ y, r y = true → s y = true ∨ Way m x y
  all : ∀ j, j < n → m x j = true → r j = true
  shut : ∀ y, r y = true → s y = false → ∀ z, z < 7 → m y z = true → r z = true
theorem Seen.start (m : Step7) (x : Nat) (s : Set7) : Seen m x 0 s s where
  keep := fun _ h => h
  way := fun _ h => .inl h
  all := fun _ h => absurd h (by omega)
  shut := fun y h h0 => by rw [h] at h0; cases h0
theorem Seen.skip {m : Step7} {x n : Nat} {s r : Set7} (h : Seen m x n s r) (hn : m x n = false ∨ r n = true) : Seen m x (n + 1) s r where
  keep := h.keep
  way := h.way
  all := fun j hj hm => by
    rcases Nat.lt_or_ge j n with h1 | h1
    · exact h.all j h1 hm
    · have e : j = n := by omega
      subst e
      rcases hn with h2 | h2
      · rw [h2] at hm; cases hm
      · exact h2
  shut := h.shut
theorem setS_same (s : Set7) (t : Nat) (x : Bool) : setS s t x t = x := by simp [setS]
theorem setS_other (s : Set7) {t y : Nat} (x : Bool) (h : y ≠ t) : setS s t x y = s y := by simp [setS, h]
theorem Seen.visit {m : Step7} {x n : Nat} {s r q : Set7} (h : Seen m x n s r) (hm : m x n = true) (k : Seen m n 7 (setS r n true) q) : Seen m x (n + 1) s q := by
  have hk : ∀ y, r y = true → q y = true := fun y hy => k.keep y (by
    by_cases e : y = n
    · rw [e, setS_same]
    · rw [setS_other r true e]; exact hy)
  have hn : q n = true := k.keep n (setS_same r n true)
  refine ⟨fun y hy => hk y (h.keep y hy), fun y hy => ?_, fun j hj hj2 => ?_, fun y hy h0 z hz hyz => ?_⟩
  · rcases k.way y hy with h1 | h1
    · by_cases e : y = n
      · exact .inr (.one (e ▸ hm))
      · rw [setS_other r true e] at h1; exact h.way y h1
    · exact .inr (.more hm h1)
  · rcases Nat.lt_or_ge j n with h1 | h1
    · exact hk j (h.all j h1 hj2)
    · rw [show j = n by omega]; exact hn
  · by_cases e : y = n
    · subst e; exact k.all z hz hyz
    · cases hr : r y with
      | true => exact hk z (h.shut y hr h0 z hz hyz)
      | false => exact k.shut y hy (by rw [setS_other r true e]; exact hr) z hz hyz
/-- From nothing seen on: just what there is a way to. -/
theorem seen_way {m : Step7} {x : Nat} {q : Set7} (hm : ∀ y z, m y z = true → z < 7) (h : Seen m x 7 (fun _ => false) q) (y : Nat) : q y = true ↔ Way m x y := by
  constructor
  · intro hy
    rcases h.way y hy with h1 | h1
    · cases h1
    · exact h1
  · intro hw
    have : ∀ a b, Way m a b → (∀ z, m a z = true → q z = true) → q b = true := fun a b hab =>
      way_ind (R := fun a b => (∀ z, m a z = true → q z = true) → q b = true) (fun _ _ e hz => hz _ e) (fun _ _ _ e _ ih hz => ih fun z hyz => h.shut _ (hz _ e) rfl z (hm _ _ hyz) hyz) hab
    exact this x y hw fun z hz => h.all z (hm _ _ hz) hz
theorem steps_lt {l : List Edge2} (hd : ∀ e ∈ l, (1 ≤ e.1 ∧ e.1 ≤ 6) ∧ (1 ≤ e.2 ∧ e.2 ≤ 6)) {y z : Nat} (h : stepsS l y z = true) : (1 ≤ y ∧ y ≤ 6) ∧ (1 ≤ z ∧ z ≤ 6) := by
  unfold stepsS at h
  obtain ⟨e, he, h2⟩ := List.any_eq_true.1 h
  have h3 := hd e he
  simp only [Bool.and_eq_true, beq_iff_eq] at h2
  omega
end Go.Proofs.YtjcaekhkeobhpahDoor
