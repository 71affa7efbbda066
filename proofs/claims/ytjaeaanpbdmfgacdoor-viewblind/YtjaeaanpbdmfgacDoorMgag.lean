/-
  PROVED HERE: plain facts, with no word of the program: ways of at least one edge; what going along all edges from a deal on, once to each, sees.
  Conditions: none.
  PROVED HERE: plain facts, with no word of the program: rings of so many that go on from a beginning, the first by numbers.
  Conditions: none.
-/
import Derived.Test.YtjaeaanpbdmfgacDoorGraphPlain2
namespace Go.Proofs.YtjaeaanpbdmfgacDoor

/-- A way of so many edges and one more. -/
def wayN (m : Step7) : Nat → Nat → Nat → Prop
  | 0, x, y => m x y = true
  | n + 1, x, y => ∃ z, m x z = true ∧ wayN m n z y
/-- A way of at least one edge. -/
def Way (m : Step7) (x y : Nat) : Prop := ∃ n, wayN m n x y
theorem Way.one {m : Step7} {x y : Nat} (h : m x y = true) : Way m x y := ⟨0, h⟩
theorem Way.more {m : Step7} {x y z : Nat} (h : m x y = true) (hw : Way m y z) : Way m x z := by
  obtain ⟨n, hn⟩ := hw
  exact ⟨n + 1, y, h, hn⟩
theorem way_ind {m : Step7} {R : Nat → Nat → Prop} (h1 : ∀ x y, m x y = true → R x y) (h2 : ∀ x y z, m x y = true → Way m y z → R y z → R x z) {x y : Nat} (h : Way m x y) : R x y := by
  obtain ⟨n, hn⟩ := h
  induction n generalizing x with
  | zero => exact h1 x y hn
  | succ n ih =>
    obtain ⟨z, hz, hn⟩ := hn
    exact h2 x z y hz ⟨n, hn⟩ (ih hn)
theorem Way.trans {m : Step7} {x y z : Nat} (h : Way m x y) (k : Way m y z) : Way m x z :=
  way_ind (R := fun a b => Way m b z → Way m a z) (fun _ _ h1 k => .more h1 k) (fun _ _ _ h1 _ ih k => .more h1 (ih k)) h k
/-- What was seen ahead, what is seen behind the edges to the first n deals. -/
structure Seen (m : Step7) (x n : Nat) (s r : Set7) : Prop where
  keep : ∀ y, s y = true → r y = true
  way : ∀ y, r y = true → s y = true ∨ Way m x y
  all : ∀ j, j < n → m x j = true → r j = true
  shut : ∀ y, r y = true → s y = false → ∀ z, z < 7 → m y z = true → r z = true
theorem Seen.start (m : Step7) (x : Nat) (s : Set7) : Seen m x 0 s s where
  keep := fun _ h => h
  way := fun _ h => .inl h
  all := fun _ h => absurd h (by omega)
  shut := fun y h h0 => by rw [h] at h0; cases h0
theorem Seen.skip {m : Step7} {x n : Nat} {s r : Set7} (h : Seen m x n s r) (hn : m x n = false ∨ r n = true) : Seen m x (n + 1) s r where
  keep := h.keep
  way := h.way
  all := fun j hj hm => by
    rcases Nat.lt_or_ge j n with h1 | h1
    · exact h.all j h1 hm
    · have e : j = n := by omega
      subst e
      rcases hn with h2 | h2
      · rw [h2] at hm; cases hm
      · exact h2
  shut := h.shut
theorem setS_same (s : Set7) (t : Nat) (x : Bool) : setS s t x t = x := by simp [setS]
theorem setS_other (s : Set7) {t y : Nat} (x : Bool) (h : y ≠ t) : setS s t x y = s y := by simp [setS, h]
theorem Seen.visit {m : Step7} {x n : Nat} {s r q : Set7} (h : Seen m x n s r) (hm : m x n = true) (k : Seen m n 7 (setS r n true) q) : Seen m x (n + 1) s q := by
  have hk : ∀ y, r y = true → q y = true := fun y hy => k.keep y (by
    by_cases e : y = n
    · rw [e, setS_same]
    · rw [setS_other r true e]; exact hy)
  have hn : q n = true := k.keep n (setS_same r n true)
  refine ⟨fun y hy => hk y (h.keep y hy), fun y hy => ?_, fun j hj hj2 => ?_, fun y hy h0 z hz hyz => ?_⟩
  · rcases k.way y hy with h1 | h1
    · by_cases e : y = n
      · exact .inr (.one (e ▸ hm))
      · rw [setS_other r true e] at h1; exact h.way y h1
    · exact .inr (.more hm h1)
  · rcases Nat.lt_or_ge j n with h1 | h1
    · exact hk j (h.all j h1 hj2)
    · rw [show j = n by omega]; exact hn
  · by_cases e : y = n
    · subst e; exact k.all z hz hyz
    · cases hr : r y with
      | true => exact hk z (h.shut y hr h0 z hz hyz)
      | false => exact k.shut y hy (by rw [setS_other r true e]; exact hr) z hz hyz
/-- From nothing seen on: just what there is a way to. -/
theorem seen_way {m : Step7} {x : Nat} {q : Set7} (hm : ∀ y z, m y z = true → z < 7) (h : Seen m x 7 (fun _ => false) q) (y : Nat) : q y = true ↔ Way m x y := by
  constructor
  · intro hy
    rcases h.way y hy with h1 | h1
    · cases h1
    · exact h1
  · intro hw
    have : ∀ a b, Way m a b → (∀ z, m a z = true → q z = true) → q b = true := fun a b hab =>
      way_ind (R := fun a b => (∀ z, m a z = true → q z = true) → q b = true) (fun _ _ e hz => hz _ e) (fun _ _ _ e _ ih hz => ih fun z hyz => h.shut _ (hz _ e) rfl z (hm _ _ hyz) hyz) hab
    exact this x y hw fun z hz => h.all z (hm _ _ hz) hz
theorem steps_lt {l : List Edge2} (hd : ∀ e ∈ l, (1 ≤ e.1 ∧ e.1 ≤ 6) ∧ (1 ≤ e.2 ∧ e.2 ≤ 6)) {y z : Nat} (h : stepsS l y z = true) : (1 ≤ y ∧ y ≤ 6) ∧ (1 ≤ z ∧ z ≤ 6) := by
  unfold stepsS at h
  obtain ⟨e, he, h2⟩ := List.any_eq_true.1 h
  have h3 := hd e he
  simp only [Bool.and_eq_true, beq_iff_eq] at h2
  omega
end Go.Proofs.YtjaeaanpbdmfgacDoor

namespace Go.Proofs.YtjaeaanpbdmfgacDoor

def lastN (r : List Nat) : Nat := r.getLastD 0
def headN (r : List Nat) : Nat := r.headD 0
/-- May a deal be the next? -/
def okB (m : Step7) (r : List Nat) (t : Nat) : Bool := r.isEmpty || m (lastN r) t
/-- A ring that goes on from a beginning by so many more. -/
def growF (m : Step7) : Nat → List Nat → Option (List Nat)
  | 0, r => if m (lastN r) (headN r) = true then some r else none
  | f + 1, r => [1, 2, 3, 4, 5, 6].findSome? fun t => if okB m r t = true then growF m f (r ++ [t]) else none
theorem growF_hit {m : Step7} {f : Nat} {r q : List Nat} {t : Nat} (h1 : 1 ≤ t) (h6 : t ≤ 6) (ho : okB m r t = true) (hf : growF m f (r ++ [t]) = some q) (hno : ∀ j, 1 ≤ j → j < t → okB m r j = true → growF m f (r ++ [j]) = none) : growF m (f + 1) r = some q := by
  have hn : ∀ j, 1 ≤ j → j < t → (if okB m r j = true then growF m f (r ++ [j]) else none) = none := fun j a b => by
    by_cases h : okB m r j = true
    · rw [if_pos h]; exact hno j a b h
    · rw [if_neg h]
  have hh : (if okB m r t = true then growF m f (r ++ [t]) else none) = some q := by rw [if_pos ho]; exact hf
  unfold growF
  rcases (show t = 1 ∨ t = 2 ∨ t = 3 ∨ t = 4 ∨ t = 5 ∨ t = 6 by omega) with e | e | e | e | e | e <;> subst e
  · simp only [List.findSome?_cons, hh]
  · simp only [List.findSome?_cons, hh, hn 1 (by omega) (by omega)]
  · simp only [List.findSome?_cons, hh, hn 1 (by omega) (by omega), hn 2 (by omega) (by omega)]
  · simp only [List.findSome?_cons, hh, hn 1 (by omega) (by omega), hn 2 (by omega) (by omega), hn 3 (by omega) (by omega)]
  · simp only [List.findSome?_cons, hh, hn 1 (by omega) (by omega), hn 2 (by omega) (by omega), hn 3 (by omega) (by omega), hn 4 (by omega) (by omega)]
  · simp only [List.findSome?_cons, hh, hn 1 (by omega) (by omega), hn 2 (by omega) (by omega), hn 3 (by omega) (by omega), hn 4 (by omega) (by omega), hn 5 (by omega) (by omega)]
theorem growF_none {m : Step7} {f : Nat} {r : List Nat} (hno : ∀ j, 1 ≤ j → j < 7 → okB m r j = true → growF m f (r ++ [j]) = none) : growF m (f + 1) r = none := by
  unfold growF
  rw [List.findSome?_eq_none_iff]
  intro j hj
  have : 1 ≤ j ∧ j < 7 := by simp at hj; omega
  by_cases h : okB m r j = true
  · rw [if_pos h]; exact hno j this.1 this.2 h
  · rw [if_neg h]
theorem okB_nil (m : Step7) (t : Nat) : okB m [] t = true := rfl
theorem okB_cons {m : Step7} {r : List Nat} {t : Nat} (h : r ≠ []) : okB m r t = m (lastN r) t := by
  cases r with
  | nil => exact absurd rfl h
  | cons a l => rfl
/-- Of so many, from nothing on; of the fewest. -/
def ringL (l : List Edge2) : Option (List Nat) := [1, 2, 3, 4, 5, 6].findSome? fun n => growF (stepsS l) n []
theorem growF_some {m : Step7} : ∀ (f : Nat) (r q : List Nat), growF m f r = some q → q.length = r.length + f := by
  intro f
  induction f with
  | zero =>
    intro r q h
    unfold growF at h
    split at h
    · rw [← Option.some.inj h]; rfl
    · cases h
  | succ f ih =>
    intro r q h
    unfold growF at h
    obtain ⟨t, _, h2⟩ := List.exists_of_findSome?_eq_some h
    split at h2
    · have := ih _ _ h2
      simp at this
      omega
    · cases h2
theorem ring_hit {l : List Edge2} {n : Nat} {q : List Nat} (h1 : 1 ≤ n) (h6 : n ≤ 6) (hf : growF (stepsS l) n [] = some q) (hn : ∀ j, 1 ≤ j → j < n → growF (stepsS l) j [] = none) : ringL l = some q := by
  unfold ringL
  rcases (show n = 1 ∨ n = 2 ∨ n = 3 ∨ n = 4 ∨ n = 5 ∨ n = 6 by omega) with e | e | e | e | e | e <;> subst e
  · simp only [List.findSome?_cons, hf]
  · simp only [List.findSome?_cons, hf, hn 1 (by omega) (by omega)]
  · simp only [List.findSome?_cons, hf, hn 1 (by omega) (by omega), hn 2 (by omega) (by omega)]
  · simp only [List.findSome?_cons, hf, hn 1 (by omega) (by omega), hn 2 (by omega) (by omega), hn 3 (by omega) (by omega)]
  · simp only [List.findSome?_cons, hf, hn 1 (by omega) (by omega), hn 2 (by omega) (by omega), hn 3 (by omega) (by omega), hn 4 (by omega) (by omega)]
  · simp only [List.findSome?_cons, hf, hn 1 (by omega) (by omega), hn 2 (by omega) (by omega), hn 3 (by omega) (by omega), hn 4 (by omega) (by omega), hn 5 (by omega) (by omega)]
theorem ring_none {l : List Edge2} (hn : ∀ j, 1 ≤ j → j < 7 → growF (stepsS l) j [] = none) : ringL l = none := by
  unfold ringL
  rw [List.findSome?_eq_none_iff]
  intro j hj
  have : 1 ≤ j ∧ j < 7 := by simp at hj; omega
  exact hn j this.1 this.2
/-- Where it comes from. -/
theorem ring_from {l : List Edge2} {q : List Nat} (h : ringL l = some q) : ∃ n, 1 ≤ n ∧ n ≤ 6 ∧ growF (stepsS l) n [] = some q := by
  unfold ringL at h
  obtain ⟨n, hn, h2⟩ := List.exists_of_findSome?_eq_some h
  exact ⟨n, by simp at hn; omega, by simp at hn; omega, h2⟩
theorem ring_not {l : List Edge2} (h : ringL l = none) (n : Nat) (h1 : 1 ≤ n) (h6 : n ≤ 6) : growF (stepsS l) n [] = none := by
  unfold ringL at h
  rw [List.findSome?_eq_none_iff] at h
  exact h n (by simp; omega)
end Go.Proofs.YtjaeaanpbdmfgacDoor
