/-
  PROVED HERE: plain facts, with no word of the program: grips on a tree (chapter 16), one by one; FROM ABOVE THERE IS NO RING (Silberschatz and Kedem): of grips that are legal there is no round of deals each of which locked an item ahead of the next one.
  Conditions: none.
-/
import Derived.Test.YtmgadiopjofegaiStrictPlain
namespace Go.Proofs.Ytmgadiopjofegai

abbrev Grip3 := Int × Int × Bool
def gAt (l : List Grip3) (i : Nat) : Grip3 := l.getD i (0, 0, false)
/-- What is wrong with a tree. -/
def treeE (up : List Int) : Int :=
  if up.length < 1 ∨ 6 < up.length then 1 else if up.getD 0 0 ≠ 0 then 3 else if ((List.range up.length).any fun i => decide (0 < i) && (decide (up.getD i 0 < 1) || decide ((i : Int) < up.getD i 0))) = true then 1 else 0
def upOf (up : List Int) (x : Int) : Int := up.getD (x - 1).toNat 0
structure Gst where
  holder : Int → Int
  had : Int → Int → Bool
  first : Int → Bool
def gst0 : Gst := ⟨fun _ => 0, fun _ _ => false, fun _ => false⟩
/-- What is wrong with a grip. -/
def gripE (up : List Int) (s : Gst) (g : Grip3) : Int :=
  if (g.1 < 1 ∨ 6 < g.1) ∨ g.2.1 < 1 ∨ (up.length : Int) < g.2.1 then 1
  else if g.2.2 = false then (if s.holder g.2.1 ≠ g.1 then 5 else 0)
  else if s.holder g.2.1 ≠ 0 then 7
  else if s.had g.1 g.2.1 = true ∨ (s.first g.1 = true ∧ (g.2.1 = 1 ∨ s.holder (upOf up g.2.1) ≠ g.1)) then 6 else 0
def stepG (s : Gst) (g : Grip3) : Gst :=
  if g.2.2 = false then { s with holder := setF s.holder g.2.1 0 } else ⟨setF s.holder g.2.1 g.1, setF s.had g.1 (setF (s.had g.1) g.2.1 true), setF s.first g.1 true⟩
def stG (l : List Grip3) : Nat → Gst
  | 0 => gst0
  | k + 1 => stepG (stG l k) (gAt l k)
/-- All of them are legal. -/
def Legal (up : List Int) (l : List Grip3) : Prop := ∀ i, i < l.length → gripE up (stG l i) (gAt l i) = 0
def LockAt (l : List Grip3) (t x : Int) (i : Nat) : Prop := i < l.length ∧ gAt l i = (t, x, true)
theorem stG_lock {l : List Grip3} {t x : Int} {i : Nat} (h : LockAt l t x i) : stG l (i + 1) = ⟨setF (stG l i).holder x t, setF (stG l i).had t (setF ((stG l i).had t) x true), setF (stG l i).first t true⟩ := by
  show stepG (stG l i) (gAt l i) = _
  rw [h.2]
  unfold stepG
  rw [if_neg (by simp)]
theorem lock_ok {up : List Int} {l : List Grip3} (hL : Legal up l) {t x : Int} {i : Nat} (h : LockAt l t x i) : (1 ≤ t ∧ t ≤ 6) ∧ (1 ≤ x ∧ x ≤ up.length) ∧ (stG l i).holder x = 0 ∧ (stG l i).had t x = false ∧ ((stG l i).first t = true → x ≠ 1 ∧ (stG l i).holder (upOf up x) = t) := by
  have h1 := hL i h.1
  rw [h.2] at h1
  unfold gripE at h1
  simp only at h1
  split at h1
  · cases h1
  · rename_i hr
    rw [if_neg (by decide)] at h1
    split at h1
    · cases h1
    · rename_i hh
      split at h1
      · cases h1
      · rename_i hs
        have hs' := not_or.1 hs
        refine ⟨by omega, by omega, by simpa using hh, by simpa using hs'.1, fun hf => ?_⟩
        have h2 := hs'.2
        constructor
        · intro e; exact h2 ⟨hf, .inl e⟩
        · exact Decidable.byContradiction fun e => h2 ⟨hf, .inr e⟩
/-- Who holds an item has locked it, and held it since. -/
theorem held_since {l : List Grip3} {t p : Int} (ht : t ≠ 0) : ∀ i, i ≤ l.length → (stG l i).holder p = t → ∃ j, j < i ∧ LockAt l t p j ∧ ∀ m, j < m → m ≤ i → (stG l m).holder p = t := by
  intro i
  induction i with
  | zero => intro _ h; exact absurd h.symm ht
  | succ i ih =>
    intro hi h
    have h' := h
    rw [show stG l (i + 1) = stepG (stG l i) (gAt l i) from rfl] at h
    obtain ⟨⟨u, x, b⟩, hg⟩ : ∃ g, gAt l i = g := ⟨_, rfl⟩
    rw [hg] at h
    unfold stepG at h
    simp only at h
    have old : (stG l i).holder p = t → ∃ j, j < i + 1 ∧ LockAt l t p j ∧ ∀ m, j < m → m ≤ i + 1 → (stG l m).holder p = t := fun hs => by
      obtain ⟨j, h1, h2, h3⟩ := ih (by omega) hs
      refine ⟨j, by omega, h2, fun m h4 h5 => ?_⟩
      rcases Nat.lt_or_ge i m with e | e
      · rw [show m = i + 1 by omega]; exact h'
      · exact h3 m h4 e
    by_cases hb : b = false
    · rw [if_pos hb] at h
      simp only at h
      by_cases e : p = x
      · subst e; rw [setF_same] at h; exact absurd h.symm ht
      · rw [setF_other _ _ e] at h; exact old h
    · rw [if_neg hb] at h
      simp only at h
      by_cases e : p = x
      · subst e
        rw [setF_same] at h
        subst h
        refine ⟨i, by omega, ⟨by omega, by rw [hg]; simp at hb; rw [hb]⟩, fun m h4 h5 => ?_⟩
        rw [show m = i + 1 by omega]; exact h'
      · rw [setF_other _ _ e] at h; exact old h
theorem had_since {l : List Grip3} {t x : Int} {i : Nat} (h : LockAt l t x i) : ∀ k, i < k → k ≤ l.length → (stG l k).had t x = true ∧ (stG l k).first t = true := by
  intro k
  induction k with
  | zero => intro hk; omega
  | succ k ih =>
    intro hk hl
    have step : ∀ s : Gst, (s.had t x = true → (stepG s (gAt l k)).had t x = true) ∧ (s.first t = true → (stepG s (gAt l k)).first t = true) := fun s => by
      obtain ⟨⟨u, y, b⟩, hg⟩ : ∃ g, gAt l k = g := ⟨_, rfl⟩
      rw [hg]
      unfold stepG
      simp only
      split
      · exact ⟨id, id⟩
      · simp only
        constructor
        · intro h1
          by_cases e : t = u
          · subst e
            rw [setF_same]
            by_cases e2 : x = y
            · subst e2; exact setF_same _ _ _
            · rw [setF_other _ _ e2]; exact h1
          · rw [setF_other _ _ e]; exact h1
        · intro h1
          by_cases e : t = u
          · subst e; exact setF_same _ _ _
          · rw [setF_other _ _ e]; exact h1
    rcases Nat.lt_or_ge i k with e | e
    · obtain ⟨h1, h2⟩ := ih e (by omega)
      exact ⟨(step _).1 h1, (step _).2 h2⟩
    · rw [show k = i by omega, stG_lock h]
      simp only
      rw [setF_same, setF_same, setF_same]
      exact ⟨rfl, rfl⟩
theorem lock_once {up : List Int} {l : List Grip3} (hL : Legal up l) {t x : Int} {i k : Nat} (h1 : LockAt l t x i) (h2 : LockAt l t x k) : i = k := by
  rcases Nat.lt_trichotomy i k with e | e | e
  · have := (had_since h1 k e (Nat.le_of_lt h2.1)).1
    rw [(lock_ok hL h2).2.2.2.1] at this
    cases this
  · exact e
  · have := (had_since h2 i e (Nat.le_of_lt h1.1)).1
    rw [(lock_ok hL h1).2.2.2.1] at this
    cases this
/-- The item that a deal locked first. -/
def IsRoot (l : List Grip3) (t x : Int) : Prop := ∃ i, LockAt l t x i ∧ (stG l i).first t = false
theorem root_uniq {l : List Grip3} {t x y : Int} (h1 : IsRoot l t x) (h2 : IsRoot l t y) : x = y := by
  obtain ⟨i, a1, a2⟩ := h1
  obtain ⟨k, b1, b2⟩ := h2
  rcases Nat.lt_trichotomy i k with e | e | e
  · rw [(had_since a1 k e (Nat.le_of_lt b1.1)).2] at b2; cases b2
  · subst e
    have := a1.2.symm.trans b1.2
    injection this with _ h3
    injection h3
  · rw [(had_since b1 i e (Nat.le_of_lt a1.1)).2] at a2; cases a2
/-- One locked an item ahead of another one. -/
def Ahead (l : List Grip3) (t u x : Int) : Prop := ∃ i k, i < k ∧ LockAt l t x i ∧ LockAt l u x k
def TreeOk (up : List Int) : Prop := ∀ x : Int, 1 < x → x ≤ up.length → 1 ≤ upOf up x ∧ upOf up x < x
section
variable {up : List Int} {l : List Grip3}
theorem root_le (hT : TreeOk up) (hL : Legal up l) : ∀ (n : Nat) (t x : Int) (i : Nat), x ≤ n → LockAt l t x i → ∃ r, IsRoot l t r ∧ r ≤ x := by
  intro n
  induction n with
  | zero => intro t x i hx h; have := (lock_ok hL h).2.1; omega
  | succ n ih =>
    intro t x i hx h
    obtain ⟨o1, o2, o3, o4, o5⟩ := lock_ok hL h
    cases hf : (stG l i).first t with
    | false => exact ⟨x, ⟨i, h, hf⟩, Int.le_refl _⟩
    | true =>
      obtain ⟨hx1, hp⟩ := o5 hf
      obtain ⟨t1, t2⟩ := hT x (by omega) o2.2
      obtain ⟨j, hj, hl, _⟩ := held_since (show t ≠ 0 by omega) i (Nat.le_of_lt h.1) hp
      obtain ⟨r, hr, hrx⟩ := ih t (upOf up x) j (by omega) hl
      exact ⟨r, hr, by omega⟩
/-- .. so one of both locked its first item ahead of the other one, or behind it, and no other one stands deeper. -/
theorem ahead_root (hT : TreeOk up) (hL : Legal up l) : ∀ (n : Nat) (t u x : Int), x ≤ n → Ahead l t u x → ∃ c, Ahead l t u c ∧ (IsRoot l t c ∨ IsRoot l u c) := by
  intro n
  induction n with
  | zero => rintro t u x hx ⟨i, k, _, h, _⟩; have := (lock_ok hL h).2.1; omega
  | succ n ih =>
    rintro t u x hx ⟨i, k, hik, h1, h2⟩
    obtain ⟨a1, a2, a3, a4, a5⟩ := lock_ok hL h1
    obtain ⟨b1, b2, b3, b4, b5⟩ := lock_ok hL h2
    cases hf : (stG l i).first t with
    | false => exact ⟨x, ⟨i, k, hik, h1, h2⟩, .inl ⟨i, h1, hf⟩⟩
    | true =>
      cases hg : (stG l k).first u with
      | false => exact ⟨x, ⟨i, k, hik, h1, h2⟩, .inr ⟨k, h2, hg⟩⟩
      | true =>
        obtain ⟨hx1, hp⟩ := a5 hf
        obtain ⟨_, hq⟩ := b5 hg
        obtain ⟨t1, t2⟩ := hT x (by omega) a2.2
        obtain ⟨j, hj, hl, hs⟩ := held_since (show t ≠ 0 by omega) i (Nat.le_of_lt h1.1) hp
        obtain ⟨m, hm, hl2, hs2⟩ := held_since (show u ≠ 0 by omega) k (Nat.le_of_lt h2.1) hq
        have htu : t ≠ u := fun e => by subst e; have := lock_once hL h1 h2; omega
        have hjm : j < m := by
          rcases Nat.lt_trichotomy j m with e | e | e
          · exact e
          · subst e
            have := hl.2.symm.trans hl2.2
            injection this with h3
            exact absurd h3 htu
          · have h3 := hs2 j e (by omega)
            rw [(lock_ok hL hl).2.2.1] at h3
            omega
        exact ih t u (upOf up x) (by omega) ⟨j, m, hjm, hl, hl2⟩
theorem lock_root {t x : Int} {i : Nat} (hT : TreeOk up) (hL : Legal up l) (h : LockAt l t x i) {r : Int} (hr : IsRoot l t r) : r ≤ x := by
  obtain ⟨r', h1, h2⟩ := root_le hT hL x.toNat t x i (by omega) h
  rw [root_uniq hr h1]
  exact h2
/-- A deal whose first item is no less than those of its neighbours can be passed by. -/
theorem ahead_pass (hT : TreeOk up) (hL : Legal up l) {a b c x y ra rb rc : Int} (h1 : Ahead l a b x) (h2 : Ahead l b c y) (hra : IsRoot l a ra) (hrb : IsRoot l b rb) (hrc : IsRoot l c rc) (hab : ra ≤ rb) (hcb : rc ≤ rb) : ∃ z, Ahead l a c z := by
  have key : ∀ {t u z : Int}, Ahead l t u z → ∀ {rt ru : Int}, IsRoot l t rt → IsRoot l u ru → ∃ c, Ahead l t u c ∧ (c = rt ∨ c = ru) ∧ rt ≤ c ∧ ru ≤ c := fun {t u z} h {rt ru} ht hu => by
    obtain ⟨c, hc, hr⟩ := ahead_root hT hL z.toNat t u z (by omega) h
    obtain ⟨i, k, hik, h3, h4⟩ := hc
    refine ⟨c, ⟨i, k, hik, h3, h4⟩, ?_, lock_root hT hL h3 ht, lock_root hT hL h4 hu⟩
    rcases hr with hr | hr
    · exact .inl (root_uniq hr ht)
    · exact .inr (root_uniq hr hu)
  obtain ⟨c1, ⟨i, k, hik, g1, g2⟩, e1, e2, e3⟩ := key h1 hra hrb
  obtain ⟨c2, ⟨m, n, hmn, g3, g4⟩, e4, e5, e6⟩ := key h2 hrb hrc
  have hc1 : c1 = rb := by omega
  have hc2 : c2 = rb := by omega
  subst hc1
  rw [hc2] at g3 g4
  have := lock_once hL g2 g3
  exact ⟨c1, i, n, by omega, g1, g4⟩
theorem ahead_self (hL : Legal up l) {t x : Int} : ¬ Ahead l t t x := fun ⟨i, k, hik, h1, h2⟩ => by have := lock_once hL h1 h2; omega
end
theorem most_of (f : Nat → Int) : ∀ n, 1 ≤ n → ∃ i, i < n ∧ ∀ j, j < n → f j ≤ f i := by
  intro n
  induction n with
  | zero => intro h; omega
  | succ n ih =>
    intro _
    by_cases hn : n = 0
    · subst hn; exact ⟨0, by omega, fun j hj => by rw [show j = 0 by omega]; exact Int.le_refl _⟩
    · obtain ⟨i, hi, h⟩ := ih (by omega)
      by_cases hc : f i ≤ f n
      · refine ⟨n, by omega, fun j hj => ?_⟩
        rcases Nat.lt_or_ge j n with e | e
        · have := h j e; omega
        · rw [show j = n by omega]; exact Int.le_refl _
      · refine ⟨i, by omega, fun j hj => ?_⟩
        rcases Nat.lt_or_ge j n with e | e
        · exact h j e
        · rw [show j = n by omega]; omega
/-- FROM ABOVE THERE IS NO RING. -/
theorem no_round_tree {up : List Int} {l : List Grip3} (hT : TreeOk up) (hL : Legal up l) : ∀ n, 1 ≤ n → ∀ f : Nat → Int, (∀ i, f (i + n) = f i) → (∀ i, ∃ x, Ahead l (f i) (f (i + 1)) x) → False := by
  intro n
  induction n with
  | zero => intro h; omega
  | succ n ih =>
    intro _ f hper hE
    by_cases hn : n = 0
    · subst hn
      obtain ⟨x, hx⟩ := hE 0
      rw [hper 0] at hx
      exact ahead_self hL hx
    · have hroot : ∀ i, ∃ r, IsRoot l (f i) r := fun i => by
        obtain ⟨x, a, b, _, h1, _⟩ := hE i
        obtain ⟨r, hr, _⟩ := root_le hT hL x.toNat (f i) x a (by have := (lock_ok hL h1).2.1; omega) h1
        exact ⟨r, hr⟩
      obtain ⟨rt, hrt⟩ := Classical.axiomOfChoice hroot
      have hrp : ∀ i, rt (i + (n + 1)) = rt i := fun i => root_uniq (hrt (i + (n + 1))) (by rw [hper]; exact hrt i)
      obtain ⟨i0, hi0, hmost⟩ := most_of rt (n + 1) (by omega)
      have hall : ∀ j, rt j ≤ rt i0 := fun j => by
        have : ∀ q r, rt (r + q * (n + 1)) = rt r := fun q => by
          induction q with
          | zero => intro r; simp
          | succ q ihq => intro r; rw [Nat.succ_mul, ← Nat.add_assoc, hrp, ihq]
        have h1 := this (j / (n + 1)) (j % (n + 1))
        rw [Nat.mod_add_div'] at h1
        rw [h1]
        exact hmost _ (Nat.mod_lt _ (by omega))
      /- one fewer: that one is passed by -/
      refine ih (by omega) (fun i => f (i % n + i0 + 1)) (fun i => by simp) fun i => ?_
      have hlt := Nat.mod_lt i (show 0 < n by omega)
      rcases Nat.lt_or_ge (i % n + 1) n with e | e
      · have e2 : (i + 1) % n = i % n + 1 := by rw [Nat.add_mod, Nat.mod_eq_of_lt (show 1 < n by omega), Nat.mod_eq_of_lt e]
        show ∃ x, Ahead l (f (i % n + i0 + 1)) (f ((i + 1) % n + i0 + 1)) x
        rw [e2, show i % n + 1 + i0 + 1 = i % n + i0 + 1 + 1 by omega]
        exact hE _
      · have e1 : i % n = n - 1 := by omega
        have e2 : (i + 1) % n = 0 := by
          rw [Nat.add_mod, e1]
          by_cases h1 : n = 1
          · subst h1; rfl
          · rw [Nat.mod_eq_of_lt (show 1 < n by omega), show n - 1 + 1 = n by omega, Nat.mod_self]
        show ∃ x, Ahead l (f (i % n + i0 + 1)) (f ((i + 1) % n + i0 + 1)) x
        rw [e1, e2, show n - 1 + i0 + 1 = i0 + n by omega, show 0 + i0 + 1 = i0 + 1 by omega]
        obtain ⟨x, hx⟩ := hE (i0 + n)
        obtain ⟨y, hy⟩ := hE (i0 + n + 1)
        have e3 : f (i0 + n + 1) = f i0 := by rw [show i0 + n + 1 = i0 + (n + 1) by omega, hper]
        have e4 : f (i0 + n + 1 + 1) = f (i0 + 1) := by rw [show i0 + n + 1 + 1 = i0 + 1 + (n + 1) by omega, hper]
        rw [e3] at hx
        rw [e3, e4] at hy
        exact ahead_pass hT hL hx hy (hrt _) (hrt i0) (hrt _) (hall _) (hall _)
end Go.Proofs.Ytmgadiopjofegai
