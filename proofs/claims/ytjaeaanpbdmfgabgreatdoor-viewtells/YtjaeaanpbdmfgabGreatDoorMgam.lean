/-
  PROVED HERE: plain facts, with no word of the program: who wrote an item last, what each op reads, and that the two ways to say that two lists look the same are one; the Reads and from whom; the first order by numbers of which something is so.
  Conditions: none.
  PROVED HERE: seven names in a block of memory (of each item the Write that was last), what becomes of them when one is set, and as a value that is compared; what ops see and leave (a map and seven names) as a value and in memory.
  Conditions: none.
-/
import Derived.Test.YtjaeaanpbdmfgabGreatDoorMgak
import Derived.Test.YtjaeaanpbdmfgabGreatDoorMgal
import Derived.Laws.Rows
import Derived.Laws.CopyOwn
import Derived.Deep.MidRow
namespace Go.Proofs.YtjaeaanpbdmfgabGreatDoor

/-- The place of the last Write of an item among the first k. -/
def wrTo (l : List Op3) (x : Int) : Nat → Option Nat
  | 0 => none
  | k + 1 => if (opAt l k).2.1 = 2 ∧ (opAt l k).2.2 = x then some k else wrTo l x k
theorem wrTo_hit {l : List Op3} {x : Int} {k : Nat} (h1 : (opAt l k).2.1 = 2) (h2 : (opAt l k).2.2 = x) : wrTo l x (k + 1) = some k := by simp [wrTo, h1, h2]
theorem wrTo_pass {l : List Op3} {x : Int} {k : Nat} (h : ¬ ((opAt l k).2.1 = 2 ∧ (opAt l k).2.2 = x)) : wrTo l x (k + 1) = wrTo l x k := by rw [wrTo, if_neg h]
theorem wrTo_some {l : List Op3} {x : Int} : ∀ {k j : Nat}, wrTo l x k = some j → j < k ∧ (opAt l j).2.1 = 2 ∧ (opAt l j).2.2 = x ∧ ∀ i, j < i → i < k → ¬ ((opAt l i).2.1 = 2 ∧ (opAt l i).2.2 = x) := by
  intro k
  induction k with
  | zero => intro j h; cases h
  | succ k ih =>
    intro j h
    by_cases hk : (opAt l k).2.1 = 2 ∧ (opAt l k).2.2 = x
    · rw [wrTo_hit hk.1 hk.2] at h
      obtain rfl := Option.some.inj h
      exact ⟨by omega, hk.1, hk.2, fun i h1 h2 => by omega⟩
    · rw [wrTo_pass hk] at h
      obtain ⟨h1, h2, h3, h4⟩ := ih h
      refine ⟨by omega, h2, h3, fun i i1 i2 => ?_⟩
      rcases Nat.lt_or_ge i k with e | e
      · exact h4 i i1 e
      · rw [show i = k by omega]; exact hk
theorem wrTo_none {l : List Op3} {x : Int} : ∀ {k : Nat}, wrTo l x k = none → ∀ i, i < k → ¬ ((opAt l i).2.1 = 2 ∧ (opAt l i).2.2 = x) := by
  intro k
  induction k with
  | zero => intro _ i hi; omega
  | succ k ih =>
    intro h i hi
    by_cases hk : (opAt l k).2.1 = 2 ∧ (opAt l k).2.2 = x
    · rw [wrTo_hit hk.1 hk.2] at h; cases h
    · rw [wrTo_pass hk] at h
      rcases Nat.lt_or_ge i k with e | e
      · exact ih h i e
      · rw [show i = k by omega]; exact hk
/-- No name. -/
def zN : Op3 × Nat := ((0, 0, 0), 0)
/-- The name of the Write that was last of an item, among the first k. -/
def lastW (l : List Op3) (k : Nat) (x : Int) : Op3 × Nat := match wrTo l x k with | none => zN | some j => nameAt l j
theorem lastW_none {l : List Op3} {k : Nat} {x : Int} (h : wrTo l x k = none) : lastW l k x = zN := by rw [lastW, h]
theorem lastW_some {l : List Op3} {k j : Nat} {x : Int} (h : wrTo l x k = some j) : lastW l k x = nameAt l j := by rw [lastW, h]
theorem lastW_zero (l : List Op3) (x : Int) : lastW l 0 x = zN := rfl
theorem lastW_hit {l : List Op3} {x : Int} {k : Nat} (h1 : (opAt l k).2.1 = 2) (h2 : (opAt l k).2.2 = x) : lastW l (k + 1) x = nameAt l k := lastW_some (wrTo_hit h1 h2)
theorem lastW_pass {l : List Op3} {x : Int} {k : Nat} (h : ¬ ((opAt l k).2.1 = 2 ∧ (opAt l k).2.2 = x)) : lastW l (k + 1) x = lastW l k x := by unfold lastW; rw [wrTo_pass h]
/-- What an op reads. -/
def srcN (l : List Op3) (i : Nat) : Op3 × Nat := if (opAt l i).2.1 = 1 then lastW l i (opAt l i).2.2 else zN
/-- The program's answer: the same names, each reads the same, the same is left. -/
def seenB (h g : List Op3) (k : Nat) : Bool := (List.range h.length).any fun i => nameAt h i == nameAt g k && srcN h i == srcN g k
def leftB (h g : List Op3) : Bool := (List.range 7).all fun x => lastW h h.length ((x : Nat) : Int) == lastW g g.length ((x : Nat) : Int)
def sightB (h g : List Op3) : Bool := (g.length == h.length) && (List.range g.length).all (seenB h g) && leftB h g
theorem seenB_iff {h g : List Op3} {k : Nat} : seenB h g k = true ↔ ∃ i, i < h.length ∧ nameAt h i = nameAt g k ∧ srcN h i = srcN g k := by simp [seenB]
theorem leftB_iff {h g : List Op3} : leftB h g = true ↔ ∀ x : Nat, x < 7 → lastW h h.length x = lastW g g.length x := by simp [leftB]
theorem sightB_iff {h g : List Op3} : sightB h g = true ↔ g.length = h.length ∧ (∀ k, k < g.length → seenB h g k = true) ∧ leftB h g = true := by simp [sightB, and_assoc]
/-- The statements' answer, for one Read. -/
def readOk (h g : List Op3) (i : Nat) : Bool := match wrTo h (opAt h i).2.2 i, wrTo g (opAt g (spot h g i)).2.2 (spot h g i) with
  | none, none => true
  | some a, some b => (opAt h a).1 == (opAt g b).1 && nthAt h a == nthAt g b
  | _, _ => false
def lastTx (l : List Op3) (x : Int) : Int := (lastW l l.length x).1.1
/-- The statements' answer. -/
def Views (h g : List Op3) : Prop := dealsEq h g ∧ (∀ x : Int, 1 ≤ x → x ≤ 6 → lastTx h x = lastTx g x) ∧ ∀ i, i < h.length → (opAt h i).2.1 = 1 → readOk h g i = true
theorem isOp_deal {o : Op3} (h : isOpB o = true) : 1 ≤ o.1 ∧ o.1 ≤ 6 := by
  simp [isOpB] at h; omega
theorem isOp_item {o : Op3} (h : isOpB o = true) (h2 : o.2.1 = 1 ∨ o.2.1 = 2) : 1 ≤ o.2.2 ∧ o.2.2 ≤ 6 := by
  rcases h2 with e | e <;> simp [isOpB, endsB, e] at h <;> omega
theorem name_parts {h g : List Op3} {i k : Nat} (hn : nameAt h i = nameAt g k) : opAt h i = opAt g k ∧ nthAt h i = nthAt g k := by
  unfold nameAt at hn; simpa using hn
theorem name_of_nth {h g : List Op3} {a b : Nat} (hh : ∀ o ∈ h, isOpB o = true) (hd : dealsEq h g) (ha : a < h.length) (hb : b < g.length) (h1 : (opAt h a).1 = (opAt g b).1) (h2 : nthAt h a = nthAt g b) : nameAt h a = nameAt g b := by
  have e1 := of_nth ha
  have e2 := of_nth hb
  have hx := isOp_deal (hh _ (opAt_mem ha))
  rw [hd _ hx.1 hx.2, h1, h2, e2] at e1
  unfold nameAt
  rw [h2, Option.some.inj e1]
theorem name_ne {l : List Op3} {i : Nat} (hl : ∀ o ∈ l, isOpB o = true) (hi : i < l.length) : nameAt l i ≠ zN := fun h => by
  have h1 := isOp_deal (hl _ (opAt_mem hi))
  have h2 : (opAt l i).1 = 0 := by have := congrArg (·.1.1) h; simpa [nameAt, zN] using this
  omega
theorem nth_mono {l : List Op3} {i k : Nat} (h : i ≤ k) (he : (opAt l i).1 = (opAt l k).1) : nthAt l i ≤ nthAt l k := by
  unfold nthAt ofL
  rw [he]
  refine List.Sublist.length_le (List.Sublist.filter _ ?_)
  rw [show l.take i = (l.take k).take i by rw [List.take_take, Nat.min_eq_left h]]
  exact List.take_sublist _ _
theorem last_le {h g : List Op3} {a b : Nat} {x : Int} (hh : ∀ o ∈ h, isOpB o = true) (hd : dealsEq h g) (ha : wrTo h x h.length = some a) (hb : wrTo g x g.length = some b) (he : (opAt h a).1 = (opAt g b).1) : nthAt h a ≤ nthAt g b := by
  obtain ⟨a1, a2, a3, a4⟩ := wrTo_some ha
  obtain ⟨b1, b2, b3, b4⟩ := wrTo_some hb
  obtain ⟨k, k1, k2⟩ := named_of_deals (fun o ho => isOp_deal (hh o ho)) hd a a1
  obtain ⟨k3, k4⟩ := name_parts k2
  have hkb : k ≤ b := by
    rcases Nat.lt_or_ge b k with e | e
    · exact absurd ⟨by rw [k3]; exact a2, by rw [k3]; exact a3⟩ (b4 k e k1)
    · exact e
  rw [← k4]
  exact nth_mono hkb (by rw [k3, he])
theorem deals_symm {h g : List Op3} (hd : dealsEq h g) : dealsEq g h := fun t h1 h2 => (hd t h1 h2).symm
theorem wrTo_nought {l : List Op3} (hl : ∀ o ∈ l, isOpB o = true) : ∀ k, k ≤ l.length → wrTo l 0 k = none := by
  intro k
  induction k with
  | zero => intro _; rfl
  | succ k ih =>
    intro hk
    rw [wrTo_pass, ih (by omega)]
    rintro ⟨h1, h2⟩
    have := isOp_item (hl _ (opAt_mem (show k < l.length by omega))) (.inr h1)
    omega
/-- Both answers are one. -/
theorem views_sight {h g : List Op3} (hh : ∀ o ∈ h, isOpB o = true) (hg : ∀ o ∈ g, isOpB o = true) : Views h g ↔ sightB h g = true := by
  have th := fun o ho => isOp_deal (hh o ho)
  have tg := fun o ho => isOp_deal (hg o ho)
  rw [sightB_iff]
  constructor
  · rintro ⟨hd, hl, hr⟩
    have hlen := len_of_deals th tg hd
    refine ⟨hlen.symm, fun k hk => seenB_iff.2 ?_, leftB_iff.2 fun x hx => ?_⟩
    · obtain ⟨i, hi, hn⟩ := named_of_deals tg (deals_symm hd) k hk
      refine ⟨i, hi, hn, ?_⟩
      obtain ⟨n1, n2⟩ := name_parts hn
      unfold srcN
      rw [n1]
      by_cases hrd : (opAt g k).2.1 = 1
      · rw [if_pos hrd, if_pos hrd]
        have hsp : spot h g i = k := by unfold spot; rw [place_name hk hn.symm]; rfl
        have h1 := hr i hi (by rw [n1]; exact hrd)
        unfold readOk at h1
        rw [hsp, n1] at h1
        cases ha : wrTo h (opAt g k).2.2 i with
        | none =>
          cases hb : wrTo g (opAt g k).2.2 k with
          | none => rw [lastW_none ha, lastW_none hb]
          | some b => rw [ha, hb] at h1; cases h1
        | some a =>
          cases hb : wrTo g (opAt g k).2.2 k with
          | none => rw [ha, hb] at h1; cases h1
          | some b =>
            rw [ha, hb] at h1
            simp at h1
            rw [lastW_some ha, lastW_some hb]
            exact name_of_nth hh hd (by have := (wrTo_some ha).1; omega) (by have := (wrTo_some hb).1; omega) h1.1 h1.2
      · rw [if_neg hrd, if_neg hrd]
    · rcases Nat.eq_zero_or_pos x with e | e
      · subst e
        rw [show ((0 : Nat) : Int) = 0 from rfl, lastW_none (wrTo_nought hh _ (Nat.le_refl _)), lastW_none (wrTo_nought hg _ (Nat.le_refl _))]
      · have h1 := hl x (by omega) (by omega)
        unfold lastTx at h1
        cases ha : wrTo h (x : Int) h.length with
        | none =>
          cases hb : wrTo g (x : Int) g.length with
          | none => rw [lastW_none ha, lastW_none hb]
          | some b =>
            rw [lastW_none ha, lastW_some hb] at h1
            have := tg _ (opAt_mem (wrTo_some hb).1)
            simp [zN, nameAt] at h1
            omega
        | some a =>
          cases hb : wrTo g (x : Int) g.length with
          | none =>
            rw [lastW_some ha, lastW_none hb] at h1
            have := th _ (opAt_mem (wrTo_some ha).1)
            simp [zN, nameAt] at h1
            omega
          | some b =>
            rw [lastW_some ha, lastW_some hb] at h1 ⊢
            have h2 : (opAt h a).1 = (opAt g b).1 := h1
            have i1 := last_le hh hd ha hb h2
            have i2 := last_le hg (deals_symm hd) hb ha h2.symm
            exact name_of_nth hh hd (wrTo_some ha).1 (wrTo_some hb).1 h2 (by omega)
  · rintro ⟨hlen, hs, hl⟩
    have hn : Named g h := fun k hk => by
      obtain ⟨i, i1, i2, _⟩ := seenB_iff.1 (hs k hk)
      exact ⟨i, i1, i2⟩
    have hd : dealsEq h g := deals_symm (deals_of_named tg th hlen hn)
    refine ⟨hd, fun x h1 h6 => ?_, fun i hi hrd => ?_⟩
    · have := leftB_iff.1 hl x.toNat (by omega)
      rw [show ((x.toNat : Nat) : Int) = x by omega] at this
      unfold lastTx
      rw [this]
    · obtain ⟨k, hk, hkn⟩ := named_of_deals th hd i hi
      obtain ⟨i', i1, i2, i3⟩ := seenB_iff.1 (hs k hk)
      obtain rfl := name_inj i1 hi (i2.trans hkn)
      have hsp : spot h g i' = k := by unfold spot; rw [place_name hk hkn]; rfl
      obtain ⟨n1, n2⟩ := name_parts hkn
      unfold srcN at i3
      rw [n1, if_pos hrd, if_pos hrd] at i3
      unfold readOk
      rw [hsp, n1]
      cases ha : wrTo h (opAt h i').2.2 i' with
      | none =>
        cases hb : wrTo g (opAt h i').2.2 k with
        | none => rfl
        | some b =>
          rw [lastW_none ha, lastW_some hb] at i3
          exact absurd i3.symm (name_ne hg (by have := (wrTo_some hb).1; omega))
      | some a =>
        cases hb : wrTo g (opAt h i').2.2 k with
        | none =>
          rw [lastW_some ha, lastW_none hb] at i3
          exact absurd i3 (name_ne hh (by have := (wrTo_some ha).1; omega))
        | some b =>
          rw [lastW_some ha, lastW_some hb] at i3
          obtain ⟨m1, m2⟩ := name_parts i3
          simp [m1, m2]
/-- Reads, and from whom, among the first k. -/
def readsTo (l : List Op3) : Nat → List Edge2
  | 0 => []
  | k + 1 => if (opAt l k).2.1 = 1 then readsTo l k ++ [((k : Int), (lastW l k (opAt l k).2.2).1.1)] else readsTo l k
theorem readsTo_len (l : List Op3) (k : Nat) : (readsTo l k).length ≤ k := by
  induction k with
  | zero => exact Nat.le_refl _
  | succ k ih =>
    rw [readsTo]
    split
    · simp; omega
    · omega
/-- Orders that are tried, the first by numbers first: f more are to come behind a beginning. -/
def tryO (ds : List Int) (p : List Int → Bool) : Nat → List Int → Option (List Int)
  | 0, b => if p b = true then some b else none
  | f + 1, b => ds.findSome? fun t => if b.contains t = true then none else tryO ds p f (b ++ [t])
theorem findSome_at {α β : Type} {q : α → Option β} : ∀ {l : List α} {k : Nat} {a : α} {r : β}, l[k]? = some a → q a = some r → (∀ j y, j < k → l[j]? = some y → q y = none) → l.findSome? q = some r := by
  intro l
  induction l with
  | nil => intro k a r h; simp at h
  | cons x l ih =>
    intro k a r h hr hn
    cases k with
    | zero =>
      simp at h
      subst h
      simp [hr]
    | succ k =>
      have h0 := hn 0 x (by omega) (by simp)
      simp [h0]
      exact ih (k := k) (by simpa using h) hr fun j y hj hy => hn (j + 1) y (by omega) (by simpa using hy)
theorem tryO_hit {ds : List Int} {p : List Int → Bool} {f k : Nat} {b r : List Int} (hk : k < ds.length) (hb : ds.getD k 0 ∉ b) (hs : tryO ds p f (b ++ [ds.getD k 0]) = some r) (hn : ∀ j, j < k → ds.getD j 0 ∉ b → tryO ds p f (b ++ [ds.getD j 0]) = none) : tryO ds p (f + 1) b = some r := by
  rw [tryO]
  refine findSome_at (k := k) (a := ds.getD k 0) (by simp [List.getD, List.getElem?_eq_getElem hk]) (by rw [if_neg (by simpa using hb)]; exact hs) fun j y hj hy => ?_
  have e : ds.getD j 0 = y := by simp [List.getD, hy]
  split
  · rfl
  · rename_i h
    rw [← e]
    exact hn j hj (by rw [e]; simpa using h)
theorem tryO_none {ds : List Int} {p : List Int → Bool} {f : Nat} {b : List Int} (hn : ∀ j, j < ds.length → ds.getD j 0 ∉ b → tryO ds p f (b ++ [ds.getD j 0]) = none) : tryO ds p (f + 1) b = none := by
  rw [tryO, List.findSome?_eq_none_iff]
  intro y hy
  obtain ⟨j, hj, e⟩ := List.mem_iff_getElem.1 hy
  have e' : ds.getD j 0 = y := by simp [List.getD, List.getElem?_eq_getElem hj, e]
  split
  · rfl
  · rename_i h
    rw [← e']
    exact hn j hj (by rw [e']; simpa using h)
/-- A beginning of an order: deals, each once. -/
structure Begun (ds b : List Int) : Prop where
  once : b.Nodup
  all : ∀ x ∈ b, x ∈ ds
theorem Begun.nil (ds : List Int) : Begun ds [] := ⟨List.nodup_nil, fun x hx => by cases hx⟩
theorem Begun.snoc {ds b : List Int} (h : Begun ds b) {t : Int} (ht : t ∈ ds) (hb : t ∉ b) : Begun ds (b ++ [t]) where
  once := by
    rw [List.nodup_append]
    refine ⟨h.once, by simp, ?_⟩
    intro x hx y hy
    rw [List.mem_singleton.1 hy]
    intro e
    exact hb (e ▸ hx)
  all := fun x hx => by
    rcases List.mem_append.1 hx with e | e
    · exact h.all x e
    · rw [List.mem_singleton.1 e]; exact ht
theorem getD_mem {ds : List Int} {k : Nat} (hk : k < ds.length) : ds.getD k 0 ∈ ds := by simp [List.getD, List.getElem?_eq_getElem hk]
end Go.Proofs.YtjaeaanpbdmfgabGreatDoor

namespace Go.Proofs.YtjaeaanpbdmfgabGreatDoor
open Go.RowKit Go.Maps

/-- A number of a name. -/
def partN (n : Nm) (j : Nat) : Value := match j with | 0 => .int .i64 n.1.1 | 1 => .int .i64 n.1.2.1 | 2 => .int .i64 n.1.2.2 | _ => .int .i64 n.2
def cells28 (f : Nat → Nm) : Array Value := ((List.range 28).map fun k => partN (f (k / 4)) (k % 4)).toArray
theorem cells28_size (f : Nat → Nm) : (cells28 f).size = 28 := by simp [cells28]
theorem cells28_at (f : Nat → Nm) (k : Nat) (h : k < 28) : (cells28 f)[k]? = some (partN (f (k / 4)) (k % 4)) := by simp [cells28, h]
theorem partN_one (n : Nm) (j : Nat) : (partN n j).oneCell' = true := by unfold partN; split <;> rfl
theorem cells28_one (f : Nat → Nm) : (cells28 f).all (·.oneCell') = true := by
  rw [Array.all_eq_true_iff_forall_mem]
  intro v hv
  simp only [cells28, List.mem_toArray, List.mem_map] at hv
  obtain ⟨k, _, rfl⟩ := hv
  exact partN_one _ _
theorem cells28_congr {f g : Nat → Nm} (h : ∀ x, x < 7 → f x = g x) : cells28 f = cells28 g := by
  unfold cells28
  congr 1
  refine List.map_congr_left fun k hk => ?_
  rw [h (k / 4) (by have := List.mem_range.1 hk; omega)]
theorem partN_inj {a b : Nm} (h0 : partN a 0 = partN b 0) (h1 : partN a 1 = partN b 1) (h2 : partN a 2 = partN b 2) (h3 : partN a 3 = partN b 3) : a = b := by
  obtain ⟨⟨a1, a2, a3⟩, a4⟩ := a
  obtain ⟨⟨b1, b2, b3⟩, b4⟩ := b
  simp [partN] at h0 h1 h2 h3
  obtain rfl := h0
  obtain rfl := h1
  obtain rfl := h2
  have : a4 = b4 := by omega
  rw [this]
theorem cells28_inj {f g : Nat → Nm} (h : cells28 f = cells28 g) {x : Nat} (hx : x < 7) : f x = g x := by
  have e : ∀ j, j < 4 → partN (f x) j = partN (g x) j := fun j hj => by
    have h1 := cells28_at f (x * 4 + j) (by omega)
    rw [h, cells28_at g (x * 4 + j) (by omega), show (x * 4 + j) / 4 = x by omega, show (x * 4 + j) % 4 = j by omega] at h1
    exact (Option.some.inj h1).symm
  exact partN_inj (e 0 (by omega)) (e 1 (by omega)) (e 2 (by omega)) (e 3 (by omega))
def setW (f : Nat → Nm) (x : Nat) (n : Nm) : Nat → Nm := fun i => if i = x then n else f i
/-- Seven names in a block. -/
def LastAt (w : World) (b : Nat) (f : Nat → Nm) : Prop := w.heap[b]? = some (.cells (cells28 f) 81 (0, 0))
theorem LastAt.lt {w : World} {b : Nat} {f : Nat → Nm} (h : LastAt w b f) : b < w.heap.size := by
  have h' : w.heap[b]? = some _ := h
  exact (Array.getElem?_eq_some_iff.1 h').1
theorem LastAt.cell {w : World} {b : Nat} {f : Nat → Nm} (h : LastAt w b f) {x j : Nat} (hx : x < 7) (hj : j < 4) : w.cell? ⟨b, x * 4 + j, none⟩ = some (partN (f x) j) := by
  rw [cell_of_row w b _ _ _ _ h, cells28_at f _ (by omega), show (x * 4 + j) / 4 = x by omega, show (x * 4 + j) % 4 = j by omega]
theorem LastAt.cells {w : World} {b : Nat} {f : Nat → Nm} (h : LastAt w b f) {x : Nat} (hx : x < 7) {t a i : Int} {m : Nat} (he : f x = ((t, a, i), m)) : w.cell? ⟨b, x * 4, none⟩ = some (.int .i64 t) ∧ w.cell? ⟨b, x * 4 + 1, none⟩ = some (.int .i64 a) ∧ w.cell? ⟨b, x * 4 + 2, none⟩ = some (.int .i64 i) ∧ w.cell? ⟨b, x * 4 + 3, none⟩ = some (.int .i64 m) := by
  have h0 := h.cell hx (j := 0) (by omega)
  have h1 := h.cell hx (j := 1) (by omega)
  have h2 := h.cell hx (j := 2) (by omega)
  have h3 := h.cell hx (j := 3) (by omega)
  rw [he] at h0 h1 h2 h3
  exact ⟨h0, h1, h2, h3⟩
theorem LastAt.thaw {w : World} {b : Nat} {f : Nat → Nm} (h : LastAt w b f) (k : Nat) : w.frozen? ⟨b, k, none⟩ = false := by
  have h' : w.heap[b]? = some _ := h
  simp [World.frozen?, h']
theorem LastAt.same {w w' : World} {b : Nat} {f : Nat → Nm} (h : LastAt w b f) (hb : w'.heap[b]? = w.heap[b]?) : LastAt w' b f := hb.trans h
theorem LastAt.below {w w1 : World} {b B : Nat} {f : Nat → Nm} (h : LastAt w b f) (hb : Below B w w1) (hB : b < B) : LastAt w1 b f := (hb.block b hB).trans h
theorem LastAt.alloc {w : World} {b : Nat} {f : Nat → Nm} (h : LastAt w b f) (o : Obj) : LastAt (w.alloc o) b f := (Below.heap_alloc w o b h.lt).trans h
theorem LastAt.far {w : World} {b : Nat} {f : Nat → Nm} (h : LastAt w b f) {p : Addr} (v : Value) (hp : b ≠ p.block) : LastAt (w.setCell p v) b f := (Below.heap_setCell w p v b hp).trans h
theorem cells28_set (f : Nat → Nm) (x : Nat) (n : Nm) : (((cells28 f |>.setIfInBounds (x * 4) (partN n 0)).setIfInBounds (x * 4 + 1) (partN n 1)).setIfInBounds (x * 4 + 2) (partN n 2)).setIfInBounds (x * 4 + 3) (partN n 3) = cells28 (setW f x n) := by
  refine Array.ext_getElem? fun j => ?_
  by_cases hj : j < 28
  · rw [cells28_at _ j hj]
    simp only [Array.getElem?_setIfInBounds, Array.size_setIfInBounds, cells28_size]
    rw [cells28_at _ j hj]
    unfold setW
    by_cases e : j / 4 = x
    · rw [if_pos e]
      rcases (show j = x * 4 ∨ j = x * 4 + 1 ∨ j = x * 4 + 2 ∨ j = x * 4 + 3 by omega) with h | h | h | h
      · rw [if_neg (by omega), if_neg (by omega), if_neg (by omega), if_pos h.symm, if_pos (by omega), show j % 4 = 0 by omega]
      · rw [if_neg (by omega), if_neg (by omega), if_pos h.symm, if_pos (by omega), show j % 4 = 1 by omega]
      · rw [if_neg (by omega), if_pos h.symm, if_pos (by omega), show j % 4 = 2 by omega]
      · rw [if_pos h.symm, if_pos (by omega), show j % 4 = 3 by omega]
    · rw [if_neg e, if_neg (by omega), if_neg (by omega), if_neg (by omega), if_neg (by omega)]
  · rw [Array.getElem?_eq_none (by simp [cells28_size]; omega), Array.getElem?_eq_none (by simp [cells28_size]; omega)]
theorem LastAt.set {w : World} {b : Nat} {f : Nat → Nm} (h : LastAt w b f) (x : Nat) (n : Nm) : LastAt ((((w.setCell ⟨b, x * 4, none⟩ (partN n 0)).setCell ⟨b, x * 4 + 1, none⟩ (partN n 1)).setCell ⟨b, x * 4 + 2, none⟩ (partN n 2)).setCell ⟨b, x * 4 + 3, none⟩ (partN n 3)) b (setW f x n) := by
  have h' : w.heap[b]? = some (.cells (cells28 f) 81 (0, 0)) := h
  unfold LastAt World.setCell
  simp [Array.getElem?_modify, h', cells28_set f x n]
theorem last_box (w : World) (f : Nat → Nm) : LastAt (w.alloc (.cells (cells28 f) 81)) w.heap.size f := by
  unfold LastAt World.alloc
  simp
theorem last_fresh (w : World) (c : Array Value) (h : cells28 (fun _ => zN) = c) : LastAt (w.alloc (.cells c 81)) w.heap.size (fun _ => zN) := h ▸ last_box w _
theorem last_info : (Tryz.prog.info? 81).map (·.size) = some 28 := by kernel_rfl
theorem last_info' (f : Nat → Nm) : (Tryz.prog.info? 81).map (·.size) = some (cells28 f).size := by rw [cells28_size]; exact last_info
/-- What ops see and what they leave, as a value. -/
def cells29 (M : Nat) (f : Nat → Nm) : Array Value := (Value.map (some M) :: (cells28 f).toList).toArray
theorem cells29_size (M : Nat) (f : Nat → Nm) : (cells29 M f).size = 29 := by simp [cells29, cells28_size]
theorem cells29_one (M : Nat) (f : Nat → Nm) : (cells29 M f).all (·.oneCell') = true := by
  rw [Array.all_eq_true_iff_forall_mem]
  intro v hv
  simp only [cells29, List.mem_toArray, List.mem_cons, Array.mem_toList_iff] at hv
  rcases hv with rfl | hv
  · rfl
  · exact (Array.all_eq_true_iff_forall_mem.1 (cells28_one f)) v hv
theorem sight_info : (Tryz.prog.info? 83).map (·.size) = some 29 := by kernel_rfl
theorem sight_info' (M : Nat) (f : Nat → Nm) : (Tryz.prog.info? 83).map (·.size) = some (cells29 M f).size := by rw [cells29_size]; exact sight_info
def SightAt (w : World) (b M : Nat) (f : Nat → Nm) : Prop := w.heap[b]? = some (.cells (cells29 M f) 83 (0, 0))
theorem SightAt.lt {w : World} {b M : Nat} {f : Nat → Nm} (h : SightAt w b M f) : b < w.heap.size := by
  have h' : w.heap[b]? = some _ := h
  exact (Array.getElem?_eq_some_iff.1 h').1
theorem SightAt.map {w : World} {b M : Nat} {f : Nat → Nm} (h : SightAt w b M f) : w.cell? ⟨b, 0, none⟩ = some (.map (some M)) := by
  rw [cell_of_row w b _ _ _ _ h]; rfl
theorem SightAt.cell {w : World} {b M : Nat} {f : Nat → Nm} (h : SightAt w b M f) {k : Nat} (hk : k < 28) : w.cell? ⟨b, 1 + k, none⟩ = some (partN (f (k / 4)) (k % 4)) := by
  rw [cell_of_row w b _ _ _ _ h, Nat.add_comm 1 k]
  have := cells28_at f k hk
  simpa [cells29] using this
theorem SightAt.range {w : World} {b M : Nat} {f : Nat → Nm} (h : SightAt w b M f) : w.rangeAt b 1 (cells28 f).toList := fun j v hv => by
  have hj : j < 28 := by
    have := (List.getElem?_eq_some_iff.1 hv).1
    simpa [cells28_size] using this
  rw [h.cell hj]
  have h1 := cells28_at f j hj
  rw [← Array.getElem?_toList, hv] at h1
  exact h1.symm
theorem SightAt.below {w w1 : World} {b B M : Nat} {f : Nat → Nm} (h : SightAt w b M f) (hb : Below B w w1) (hB : b < B) : SightAt w1 b M f := (hb.block b hB).trans h
theorem SightAt.same {w w' : World} {b M : Nat} {f : Nat → Nm} (h : SightAt w b M f) (hb : w'.heap[b]? = w.heap[b]?) : SightAt w' b M f := hb.trans h
theorem sight_box (w : World) (M : Nat) (f : Nat → Nm) : SightAt (w.alloc (.cells (cells29 M f) 83)) w.heap.size M f := by
  unfold SightAt World.alloc
  simp
theorem sight_built (M : Nat) (f : Nat → Nm) : Tryz.prog.built 83 [(0, .map (some M)), (1, .agg (cells28 f))] = some (cells29 M f) := by kernel_rfl
end Go.Proofs.YtjaeaanpbdmfgabGreatDoor
