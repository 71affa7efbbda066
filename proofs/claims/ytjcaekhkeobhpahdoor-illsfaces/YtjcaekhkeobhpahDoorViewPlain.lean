/-
  PROVED HERE: plain facts, with no word of the program: who wrote an item last, what each op reads, and that the two ways to say that two lists look the same are one; the Reads and from whom; the first order by numbers of which something is so.
  Conditions: none.
-/
import Derived.Test.YtjcaekhkeobhpahDoorOddSame
namespace Go.Proofs.YtjcaekhkeobhpahDoor

/-- The place of the last Write of an item among the first k. -/
def wrTo (l : List Op3) (x : Int) : Nat → Option Nat
  | 0 => none
  | k + 1 => if (opAt l k).2.1 = 2 ∧ (opAt l k).2.2 = x then some k else wrTo l x k
theorem wrTo_hit {l : List Op3} {x : Int} {k : Nat} (h1 : (opAt l k).2.1 = 2) (h2 : (opAt l k).2.2 = x) : wrTo l x (k + 1) = some k := by simp [wrTo, h1, h2]
theorem wrTo_pass {l : List Op3} {x : Int} {k : Nat} (h : ¬ ((opAt l k).2.1 = 2 ∧ (opAt l k).2.2 = x)) : wrTo l x (k + 1) = wrTo l x k := by rw [wrTo, if_neg h]
theorem wrTo_some {l : List Op3} {x : Int} : ∀ {k j : Nat}, wrTo l x k = some j → j < k ∧ (opAt l j).2.1 = 2 ∧ (opAt l j).2.2 = x ∧ ∀ i, j < i → i < k → ¬ ((opAt l i).2.1 = 2 ∧ (opAt l i).2.2 = x) := by
  intro k
  induction k with
  | zero => intro j h; cases h
  | succ k ih =>
    intro j h
    by_cases hk : (opAt l k).2.1 = 2 ∧ (opAt l k).2.2 = x
    · rw [wrTo_hit hk.1 hk.2] at h
      obtain rfl := Option.some.inj h
      exact ⟨by omega, hk.1, hk.2, fun i h1 h2 => by omega⟩
    · rw [wrTo_pass hk] at h
      obtain ⟨h1, h2, h3, h4⟩ := ih h
      refine ⟨by omega, h2, h3, fun i i1 i2 => ?_⟩
      rcases Nat.lt_or_ge i k with e | e
      · exact h4 i i1 e
      · rw [show i = k by omega]; exact hk
theorem wrTo_none {l : List Op3} {x : Int} : ∀ {k : Nat}, wrTo l x k = none → ∀ i, i < k → ¬ ((opAt l i).2.1 = 2 ∧ (opAt l i).2.2 = x) := by
  intro k
  induction k with
  | zero => intro _ i hi; omega
  | succ k ih =>
    intro h i hi
    by_cases hk : (opAt l k).2.1 = 2 ∧ (opAt l k).2.2 = x
    · rw [wrTo_hit hk.1 hk.2] at h; cases h
    · rw [wrTo_pass hk] at h
      rcases Nat.lt_or_ge i k with e | e
      · exact ih h i e
      · rw [show i = k by omega]; exact hk
/-- No name. -/
def zN : Op3 × Nat := ((0, 0, 0), 0)
/-- The name of the Write that was last of an item, among the first k. -/
def lastW (l : List Op3) (k : Nat) (x : Int) : Op3 × Nat := match wrTo l x k with | none => zN | some j => nameAt l j
theorem lastW_none {l : List Op3} {k : Nat} {x : Int} (h : wrTo l x k = none) : lastW l k x = zN := by rw [lastW, h]
theorem lastW_some {l : List Op3} {k j : Nat} {x : Int} (h : wrTo l x k = some j) : lastW l k x = nameAt l j := by rw [lastW, h]
theorem lastW_zero (l : List Op3) (x : Int) : lastW l 0 x = zN := rfl
theorem lastW_hit {l : List Op3} {x : Int} {k : Nat} (h1 : (opAt l k).2.1 = 2) (h2 : (opAt l k).2.2 = x) : lastW l (k + 1) x = nameAt l k := lastW_some (wrTo_hit h1 h2)
theorem lastW_pass {l : List Op3} {x : Int} {k : Nat} (h : ¬ ((opAt l k).2.1 = 2 ∧ (opAt l k).2.2 = x)) : lastW l (k + 1) x = lastW l k x := by unfold lastW; rw [wrTo_pass h]
/-- What an op reads. -/
def srcN (l : List Op3) (i : Nat) : Op3 × Nat := if (opAt l i).2.1 = 1 then lastW l i (opAt l i).2.2 else zN
/-- The program's answer: the same names, each reads the same, the same is left. -/
def seenB (h g : List Op3) (k : Nat) : Bool := (List.range h.length).any fun i => nameAt h i == nameAt g k && srcN h i == srcN g k
def leftB (h g : List Op3) : Bool := (List.range 7).all fun x => lastW h h.length ((x : Nat) : Int) == lastW g g.length ((x : Nat) : Int)
def sightB (h g : List Op3) : Bool := (g.length == h.length) && (List.range g.length).all (seenB h g) && leftB h g
theorem seenB_iff {h g : List Op3} {k : Nat} : seenB h g k = true ↔ ∃ i, i < h.length ∧ nameAt h i = nameAt g k ∧ srcN h i = srcN g k := by simp [seenB]
theorem leftB_iff {h g : List Op3} : leftB h g = true ↔ ∀ x : Nat, x < 7 → lastW h h.length x = lastW g g.length x := by simp [leftB]
theorem sightB_iff {h g : List Op3} : sightB h g = true ↔ g.length = h.length ∧ (∀ k, k < g.length → seenB h g k = true) ∧ leftB h g = true := by simp [sightB, and_assoc]
/-- The statements' answer, for one Read. -/
def readOk (h g : List Op3) (i : Nat) : Bool := match wrTo h (opAt h i).2.2 i, wrTo g (opAt g (spot h g i)).2.2 (spot h g i) with
  | none, none => true
  | some a, some b => (opAt h a).1 == (opAt g b).1 && nthAt h a == nthAt g b
  | _, _ => false
def lastTx (l : List Op3) (x : Int) : Int := (lastW l l.length x).1.1
/-- The statements' answer. -/
def Views (h g : List Op3) : Prop := dealsEq h g ∧ (∀ x : Int, 1 ≤ x → x ≤ 6 → lastTx h x = lastTx g x) ∧ ∀ i, i < h.length → (opAt h i).2.1 = 1 → readOk h g i = true
theorem isOp_deal {o : Op3} (h : isOpB o = true) : 1 ≤ o.1 ∧ o.1 ≤ 6 := by
  simp [isOpB] at h; omega
theorem isOp_item {o : Op3} (h : isOpB o = true) (h2 : o.2.1 = 1 ∨ o.2.1 = 2) : 1 ≤ o.2.2 ∧ o.2.2 ≤ 6 := by
  rcases h2 with e | e <;> simp [isOpB, endsB, e] at h <;> omega
theorem name_parts {h g : List Op3} {i k : Nat} (hn : nameAt h i = nameAt g k) : opAt h i = opAt g k ∧ nthAt h i = nthAt g k := by
  unfold nameAt at hn; simpa using hn
theorem name_of_nth {h g : List Op3} {a b : Nat} (hh : ∀ o ∈ h, isOpB o = true) (hd : dealsEq h g) (ha : a < h.length) (hb : b < g.length) (h1 : (opAt h a).1 = (opAt g b).1) (h2 : nthAt h a = nthAt g b) : nameAt h a = nameAt g b := by
  have e1 := of_nth ha
  have e2 := of_nth hb
  have hx := isOp_deal (hh _ (opAt_mem ha))
  rw [hd _ hx.1 hx.2, h1, h2, e2] at e1
  unfold nameAt
  rw [h2, Option.some.inj e1]
theorem name_ne {l : List Op3} {i : Nat} (hl : ∀ o ∈ l, isOpB o = true) (hi : i < l.length) : nameAt l i ≠ zN := fun h => by
  have h1 := isOp_deal (hl _ (opAt_mem hi))
  have h2 : (opAt l i).1 = 0 := by have := congrArg (·.1.1) h; simpa [nameAt, zN] using this
  omega
theorem nth_mono {l : List Op3} {i k : Nat} (h : i ≤ k) (he : (opAt l i).1 = (opAt l k).1) : nthAt l i ≤ nthAt l k := by
  unfold nthAt ofL
  rw [he]
  refine List.Sublist.length_le (List.Sublist.filter _ ?_)
  rw [show l.take i = (l.take k).take i by rw [List.take_take, Nat.min_eq_left h]]
  exact List.take_sublist _ _
theorem last_le {h g : List Op3} {a b : Nat} {x : Int} (hh : ∀ o ∈ h, isOpB o = true) (hd : dealsEq h g) (ha : wrTo h x h.length = some a) (hb : wrTo g x g.length = some b) (he : (opAt h a).1 = (opAt g b).1) : nthAt h a ≤ nthAt g b := by
  obtain ⟨a1, a2, a3, a4⟩ := wrTo_some ha
  obtain ⟨b1, b2, b3, b4⟩ := wrTo_some hb
  obtain ⟨k, k1, k2⟩ := named_of_deals (fun o ho => isOp_deal (hh o ho)) hd a a1
  obtain ⟨k3, k4⟩ := name_parts k2
  have hkb : k ≤ b := by
    rcases Nat.lt_or_ge b k with e | e
    · exact absurd ⟨by rw [k3]; exact a2, by rw [k3]; exact a3⟩ (b4 k e k1)
    · exact e
  rw [← k4]
  exact nth_mono hkb (by rw [k3, he])
theorem deals_symm {h g : List Op3} (hd : dealsEq h g) : dealsEq g h := fun t h1 h2 => (hd t h1 h2).symm
theorem wrTo_nought {l : List Op3} (hl : ∀ o ∈ l, isOpB o = true) : ∀ k, k ≤ l.length → wrTo l 0 k = none := by
  intro k
  induction k with
  | zero => intro _; rfl
  | succ k ih =>
    intro hk
    rw [wrTo_pass, ih (by omega)]
    rintro ⟨h1, h2⟩
    have := isOp_item (hl _ (opAt_mem (show k < l.length by omega))) (.inr h1)
    omega
/-- Both answers are one. -/
theorem views_sight {h g : List Op3} (hh : ∀ o ∈ h, isOpB o = true) (hg : ∀ o ∈ g, isOpB o = true) : Views h g ↔ sightB h g = true := by
  have th := fun o ho => isOp_deal (hh o ho)
  have tg := fun o ho => isOp_deal (hg o ho)
  rw [sightB_iff]
  constructor
  · rintro ⟨hd, hl, hr⟩
    have hlen := len_of_deals th tg hd
    refine ⟨hlen.symm, fun k hk => seenB_iff.2 ?_, leftB_iff.2 fun x hx => ?_⟩
    · obtain ⟨i, hi, hn⟩ := named_of_deals tg (deals_symm hd) k hk
      refine ⟨i, hi, hn, ?_⟩
      obtain ⟨n1, n2⟩ := name_parts hn
      unfold srcN
      rw [n1]
      by_cases hrd : (opAt g k).2.1 = 1
      · rw [if_pos hrd, if_pos hrd]
        have hsp : spot h g i = k := by unfold spot; rw [place_name hk hn.symm]; rfl
        have h1 := hr i hi (by rw [n1]; exact hrd)
        unfold readOk at h1
        rw [hsp, n1] at h1
        cases ha : wrTo h (opAt g k).2.2 i with
        | none =>
          cases hb : wrTo g (opAt g k).2.2 k with
          | none => rw [lastW_none ha, lastW_none hb]
          | some b => rw [ha, hb] at h1; cases h1
        | some a =>
          cases hb : wrTo g (opAt g k).2.2 k with
          | none => rw [ha, hb] at h1; cases h1
          | some b =>
            rw [ha, hb] at h1
            simp at h1
            rw [lastW_some ha, lastW_some hb]
            exact name_of_nth hh hd (by have := (wrTo_some ha).1; omega) (by have := (wrTo_some hb).1; omega) h1.1 h1.2
      · rw [if_neg hrd, if_neg hrd]
    · rcases Nat.eq_zero_or_pos x with e | e
      · subst e
        rw [show ((0 : Nat) : Int) = 0 from rfl, lastW_none (wrTo_nought hh _ (Nat.le_refl _)), lastW_none (wrTo_nought hg _ (Nat.le_refl _))]
      · have h1 := hl x (by omega) (by omega)
        unfold lastTx at h1
        cases ha : wrTo h (x : Int) h.length with
        | none =>
          cases hb : wrTo g (x : Int) g.length with
          | none => rw [lastW_none ha, lastW_none hb]
          | some b =>
            rw [lastW_none ha, lastW_some hb] at h1
            have := tg _ (opAt_mem (wrTo_some hb).1)
            simp [zN, nameAt] at h1
            omega
        | some a =>
          cases hb : wrTo g (x : Int) g.length with
          | none =>
            rw [lastW_some ha, lastW_none hb] at h1
            have := th _ (opAt_mem (wrTo_some ha).1)
            simp [zN, nameAt] at h1
            omega
          | some b =>
            rw [lastW_some ha, lastW_some hb] at h1 ⊢
            have h2 : (opAt h a).1 = (opAt g b).1 := h1
            have i1 := last_le hh hd ha hb h2
            have i2 := last_le hg (deals_symm hd) hb ha h2.symm
            exact name_of_nth hh hd (wrTo_some ha).1 (wrTo_some hb).1 h2 (by omega)
  · rintro ⟨hlen, hs, hl⟩
    have hn : Named g h := fun k hk => by
      obtain ⟨i, i1, i2, _⟩ := seenB_iff.1 (hs k hk)
      exact ⟨i, i1, i2⟩
    have hd : dealsEq h g := deals_symm (deals_of_named tg th hlen hn)
    refine ⟨hd, fun x h1 h6 => ?_, fun i hi hrd => ?_⟩
    · have := leftB_iff.1 hl x.toNat (by omega)
      rw [show ((x.toNat : Nat) : Int) = x by omega] at this
      unfold lastTx
      rw [this]
    · obtain ⟨k, hk, hkn⟩ := named_of_deals th hd i hi
      obtain ⟨i', i1, i2, i3⟩ := seenB_iff.1 (hs k hk)
      obtain rfl := name_inj i1 hi (i2.trans hkn)
      have hsp : spot h g i' = k := by unfold spot; rw [place_name hk hkn]; rfl
      obtain ⟨n1, n2⟩ := name_parts hkn
      unfold srcN at i3
      rw [n1, if_pos hrd, if_pos hrd] at i3
      unfold readOk
      rw [hsp, n1]
      cases ha : wrTo h (opAt h i').2.2 i' with
      | none =>
        cases hb : wrTo g (opAt h i').2.2 k with
        | none => rfl
        | some b =>
          rw [lastW_none ha, lastW_some hb] at i3
          exact absurd i3.symm (name_ne hg (by have := (wrTo_some hb).1; omega))
      | some a =>
        cases hb : wrTo g (opAt h i').2.2 k with
        | none =>
          rw [lastW_some ha, lastW_none hb] at i3
          exact absurd i3 (name_ne hh (by have := (wrTo_some ha).1; omega))
        | some b =>
          rw [lastW_some ha, lastW_some hb] at i3
          obtain ⟨m1, m2⟩ := name_parts i3
          simp [m1, m2]
/-- Reads, and from whom, among the first k. -/
def readsTo (l : List Op3) : Nat → List Edge2
  | 0 => []
  | k + 1 => if (opAt l k).2.1 = 1 then readsTo l k ++ [((k : Int), (lastW l k (opAt l k).2.2).1.1)] else readsTo l k
theorem readsTo_len (l : List Op3) (k : Nat) : (readsTo l k).length ≤ k := by
  induction k with
  | zero => exact Nat.le_refl _
  | succ k ih =>
    rw [readsTo]
    split
    · simp; omega
    · omega
/-- Orders that are tried, the first by numbers first: f more are to come behind a beginning. -/
def tryO (ds : List Int) (p : List Int → Bool) : Nat → List Int → Option (List Int)
  | 0, b => if p b = true then some b else none
  | f + 1, b => ds.findSome? fun t => if b.contains t = true then none else tryO ds p f (b ++ [t])
theorem findSome_at {α β : Type} {q : α → Option β} : ∀ {l : List α} {k : Nat} {a : α} {r : β}, l[k]? = some a → q a = some r → (∀ j y, j < k → l[j]? = some y → q y = none) → l.findSome? q = some r := by
  intro l
  induction l with
  | nil => intro k a r h; simp at h
  | cons x l ih =>
    intro k a r h hr hn
    cases k with
    | zero =>
      simp at h
      subst h
      simp [hr]
    | succ k =>
      have h0 := hn 0 x (by omega) (by simp)
      simp [h0]
      exact ih (k := k) (by simpa using h) hr fun j y hj hy => hn (j + 1) y (by omega) (by simpa using hy)
theorem tryO_hit {ds : List Int} {p : List Int → Bool} {f k : Nat} {b r : List Int} (hk : k < ds.length) (hb : ds.getD k 0 ∉ b) (hs : tryO ds p f (b ++ [ds.getD k 0]) = some r) (hn : ∀ j, j < k → ds.getD j 0 ∉ b → tryO ds p f (b ++ [ds.getD j 0]) = none) : tryO ds p (f + 1) b = some r := by
  rw [tryO]
  refine findSome_at (k := k) (a := ds.getD k 0) (by simp [List.getD, List.getElem?_eq_getElem hk]) (by rw [if_neg (by simpa using hb)]; exact hs) fun j y hj hy => ?_
  have e : ds.getD j 0 = y := by simp [List.getD, hy]
  split
  · rfl
  · rename_i h
    rw [← e]
    exact hn j hj (by rw [e]; simpa using h)
theorem tryO_none {ds : List Int} {p : List Int → Bool} {f : Nat} {b : List Int} (hn : ∀ j, j < ds.length → ds.getD j 0 ∉ b → tryO ds p f (b ++ [ds.getD j 0]) = none) : tryO ds p (f + 1) b = none := by
  rw [tryO, List.findSome?_eq_none_iff]
  intro y hy
  obtain ⟨j, hj, e⟩ := List.mem_iff_getElem.1 hy
  have e' : ds.getD j 0 = y := by simp [List.getD, List.getElem?_eq_getElem hj, e]
  split
  · rfl
  · rename_i h
    rw [← e']
    exact hn j hj (by rw [e']; simpa using h)
/-- A beginning of an order: deals, each once. -/
structure Begun (ds b : List Int) : Prop where
  once : b.Nodup
  all : ∀ x ∈ b, x ∈ ds
theorem Begun.nil (ds : List Int) : Begun ds [] := ⟨List.nodup_nil, fun x hx => by cases hx⟩
theorem Begun.snoc {ds b : List Int} (h : Begun ds b) {t : Int} (ht : t ∈ ds) (hb : t ∉ b) : Begun ds (b ++ [t]) where
  once := by
    rw [List.nodup_append]
    refine ⟨h.once, by simp, ?_⟩
    intro x hx y hy
    rw [List.mem_singleton.1 hy]
    intro e
    exact hb (e ▸ hx)
  all := fun x hx => by
    rcases List.mem_append.1 hx with e | e
    · exact h.all x e
    · rw [List.mem_singleton.1 e]; exact ht
theorem getD_mem {ds : List Int} {k : Nat} (hk : k < ds.length) : ds.getD k 0 ∈ ds := by simp [List.getD, List.getElem?_eq_getElem hk]
end Go.Proofs.YtjcaekhkeobhpahDoor
