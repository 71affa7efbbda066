/-
  PROVED HERE: plain facts on texts and ops, with no word of the program: how a text is read word by word; a text that is read as a right list of ops is the text of that list, and the text of a right list is read as that list.
  Conditions: none.
-/
import Derived.Test.YtjaeaanpbdmfgaaDoorText
namespace Go.Proofs.YtjaeaanpbdmfgaaDoor

/-! ### The readers, in plain words -/
def rdGo : Int → List UInt8 → Option Int
  | n, [] => some n
  | n, c :: r => if c < 48 ∨ 57 < c then none else rdGo (min (10 * n + (c.toNat - 48 : Int)) 7) r
def rdDeal : List UInt8 → Option Int
  | [] => none
  | c :: r => if r ≠ [] ∧ c = 48 then none else rdGo 0 (c :: r)
def itemI (c : UInt8) : Int := Lib.indexByte [97, 98, 99, 100, 101, 102] c + 1
def whatI (c : UInt8) : Int := Lib.indexByte [114, 119, 99, 97] c + 1
def rdItem (l : List UInt8) : Int :=
  match l with
  | [x, c, y] => if x = 40 ∧ y = 41 then itemI c else 0
  | _ => 0
def rdTail (a : Int) (r : List UInt8) : Option Op3 :=
  if endsB a then (rdDeal r).map fun t => (t, a, 0)
  else if rdItem (r.drop (r.length - 3)) = 0 then none
  else (rdDeal (r.take (r.length - 3))).map fun t => (t, a, rdItem (r.drop (r.length - 3)))
def rdOp : List UInt8 → Option Op3
  | [] => none
  | c :: r => if whatI c = 0 then none else rdTail (whatI c) r
def cutW : List UInt8 → List UInt8 × Option (List UInt8)
  | [] => ([], none)
  | c :: r => if c = 32 then ([], some r) else (c :: (cutW r).1, (cutW r).2)
def rdW : Nat → List UInt8 → Option (List Op3)
  | 0, _ => none
  | n + 1, l => match (cutW l).2 with
    | none => (rdOp (cutW l).1).map fun o => [o]
    | some r => match rdOp (cutW l).1 with
      | none => none
      | some o => (rdW n r).map fun x => o :: x
def parseT (l : List UInt8) : Option (List Op3) := if l = [] then some [] else rdW (l.length + 1) l

/-! ### Words -/
theorem cutW_none {l : List UInt8} (h : (cutW l).2 = none) : (cutW l).1 = l ∧ (32 : UInt8) ∉ l := by
  induction l with
  | nil => simp [cutW]
  | cons c r ih =>
    unfold cutW at h ⊢
    by_cases hc : c = 32
    · rw [if_pos hc] at h; simp at h
    · rw [if_neg hc] at h ⊢
      obtain ⟨h1, h2⟩ := ih h
      exact ⟨by simp [h1], by simp [h2]; exact fun e => hc e.symm⟩
theorem cutW_some {l r : List UInt8} (h : (cutW l).2 = some r) : l = (cutW l).1 ++ 32 :: r ∧ (32 : UInt8) ∉ (cutW l).1 := by
  induction l with
  | nil => simp [cutW] at h
  | cons c t ih =>
    unfold cutW at h ⊢
    by_cases hc : c = 32
    · rw [if_pos hc] at h ⊢
      simp at h
      simp [hc, h]
    · rw [if_neg hc] at h ⊢
      obtain ⟨h1, h2⟩ := ih h
      exact ⟨by simp [← h1], by simp [h2]; exact fun e => hc e.symm⟩
theorem cutW_free {l : List UInt8} (h : (32 : UInt8) ∉ l) : cutW l = (l, none) := by
  induction l with
  | nil => rfl
  | cons c r ih =>
    have hc : c ≠ 32 := fun e => h (by simp [e])
    unfold cutW
    rw [if_neg hc, ih (fun hr => h (List.mem_cons_of_mem _ hr))]
theorem cutW_app {u : List UInt8} (v : List UInt8) (h : (32 : UInt8) ∉ u) : cutW (u ++ 32 :: v) = (u, some v) := by
  induction u with
  | nil => simp [cutW]
  | cons c r ih =>
    have hc : c ≠ 32 := fun e => h (by simp [e])
    rw [List.cons_append]
    unfold cutW
    rw [if_neg hc, ih (fun hr => h (List.mem_cons_of_mem _ hr))]

/-! ### One op and back -/
theorem opTxt_blank (o : Op3) (h : isOpB o = true) : (32 : UInt8) ∉ opTxt o := by
  obtain ⟨t, a, i⟩ := o
  simp [isOpB, endsB] at h
  obtain ⟨⟨⟨⟨h1, h2⟩, h3⟩, h4⟩, h5⟩ := h
  rcases (show t = 1 ∨ t = 2 ∨ t = 3 ∨ t = 4 ∨ t = 5 ∨ t = 6 by omega) with rfl | rfl | rfl | rfl | rfl | rfl <;>
  rcases (show a = 1 ∨ a = 2 ∨ a = 3 ∨ a = 4 by omega) with rfl | rfl | rfl | rfl <;> simp at h5 <;>
  first
  | (subst h5; decide)
  | (rcases (show i = 1 ∨ i = 2 ∨ i = 3 ∨ i = 4 ∨ i = 5 ∨ i = 6 by omega) with rfl | rfl | rfl | rfl | rfl | rfl <;> decide)
theorem rdOp_opTxt (o : Op3) (h : isOpB o = true) : rdOp (opTxt o) = some o := by
  obtain ⟨t, a, i⟩ := o
  simp [isOpB, endsB] at h
  obtain ⟨⟨⟨⟨h1, h2⟩, h3⟩, h4⟩, h5⟩ := h
  rcases (show t = 1 ∨ t = 2 ∨ t = 3 ∨ t = 4 ∨ t = 5 ∨ t = 6 by omega) with rfl | rfl | rfl | rfl | rfl | rfl <;>
  rcases (show a = 1 ∨ a = 2 ∨ a = 3 ∨ a = 4 by omega) with rfl | rfl | rfl | rfl <;> simp at h5 <;>
  first
  | (subst h5; decide)
  | (rcases (show i = 1 ∨ i = 2 ∨ i = 3 ∨ i = 4 ∨ i = 5 ∨ i = 6 by omega) with rfl | rfl | rfl | rfl | rfl | rfl <;> decide)
theorem rdGo_seven (l : List UInt8) : ∀ t, rdGo 7 l = some t → t = 7 := by
  induction l with
  | nil => intro t h; simp [rdGo] at h; omega
  | cons c r ih =>
    intro t h
    unfold rdGo at h
    by_cases hc : c < 48 ∨ 57 < c
    · rw [if_pos hc] at h; cases h
    · rw [if_neg hc] at h
      have hc' : (48 : Nat) ≤ c.toNat := by
        have : ¬ c < 48 := fun e => hc (.inl e)
        rw [UInt8.lt_iff_toNat_lt] at this
        simpa using this
      rw [show min (10 * (7 : Int) + ((c.toNat : Int) - 48)) 7 = 7 by omega] at h
      exact ih t h
theorem rdDeal_cons (c : UInt8) (r : List UInt8) : rdDeal (c :: r) = if r ≠ [] ∧ c = 48 then none else rdGo 0 (c :: r) := rfl
theorem rdDeal_small (l : List UInt8) (t : Int) (h : rdDeal l = some t) (h6 : t ≤ 6) : l = [digC t] := by
  cases l with
  | nil => simp [rdDeal] at h
  | cons c r =>
    rw [rdDeal_cons] at h
    by_cases hz : r ≠ [] ∧ c = 48
    · rw [if_pos hz] at h; cases h
    · rw [if_neg hz] at h
      unfold rdGo at h
      by_cases hc : c < 48 ∨ 57 < c
      · rw [if_pos hc] at h; cases h
      · rw [if_neg hc] at h
        have hc1 : (48 : Nat) ≤ c.toNat := by
          have : ¬ c < 48 := fun e => hc (.inl e)
          rw [UInt8.lt_iff_toNat_lt] at this
          simpa using this
        have hc2 : c.toNat ≤ 57 := by
          have : ¬ 57 < c := fun e => hc (.inr e)
          rw [UInt8.lt_iff_toNat_lt] at this
          simpa using this
        cases r with
        | nil =>
          simp [rdGo] at h
          have ht : t = (c.toNat : Int) - 48 := by omega
          have hd : digC t = c := by
            unfold digC
            rw [ht, show 48 + ((c.toNat : Int) - 48).toNat = c.toNat by omega]
            exact UInt8.ofNat_toNat
          rw [hd]
        | cons d r =>
          exfalso
          have hcne : c ≠ 48 := fun e => hz ⟨by simp, e⟩
          have hc3 : 49 ≤ c.toNat := by
            rcases Nat.lt_or_ge c.toNat 49 with hlt | hge
            · exact absurd (UInt8.toNat_inj.1 (show c.toNat = (48 : UInt8).toNat by simp; omega)) hcne
            · exact hge
          unfold rdGo at h
          by_cases hd : d < 48 ∨ 57 < d
          · rw [if_pos hd] at h; cases h
          · rw [if_neg hd] at h
            have hd1 : (48 : Nat) ≤ d.toNat := by
              have : ¬ d < 48 := fun e => hd (.inl e)
              rw [UInt8.lt_iff_toNat_lt] at this
              simpa using this
            rw [show min (10 * min (10 * (0 : Int) + ((c.toNat : Int) - 48)) 7 + ((d.toNat : Int) - 48)) 7 = 7 by omega] at h
            have := rdGo_seven r t h
            omega
theorem whatI_back (c : UInt8) (h : whatI c ≠ 0) : whatC (whatI c) = c := by
  by_cases h1 : c = 114
  · subst h1; decide
  · by_cases h2 : c = 119
    · subst h2; decide
    · by_cases h3 : c = 99
      · subst h3; decide
      · by_cases h4 : c = 97
        · subst h4; decide
        · exfalso
          apply h
          unfold whatI
          rw [indexByte_miss _ _ (by simp [h1, h2, h3, h4])]
          rfl
theorem itemI_back (c : UInt8) (h : itemI c ≠ 0) : (96 + (itemI c).toNat).toUInt8 = c := by
  by_cases h1 : c = 97
  · subst h1; decide
  · by_cases h2 : c = 98
    · subst h2; decide
    · by_cases h3 : c = 99
      · subst h3; decide
      · by_cases h4 : c = 100
        · subst h4; decide
        · by_cases h5 : c = 101
          · subst h5; decide
          · by_cases h6 : c = 102
            · subst h6; decide
            · exfalso
              apply h
              unfold itemI
              rw [indexByte_miss _ _ (by simp [h1, h2, h3, h4, h5, h6])]
              rfl
theorem rdItem_back (l : List UInt8) (h : rdItem l ≠ 0) : l = [40, (96 + (rdItem l).toNat).toUInt8, 41] := by
  match l, h with
  | [x, c, y], h =>
    simp only [rdItem] at h ⊢
    by_cases hx : x = 40 ∧ y = 41
    · rw [if_pos hx] at h ⊢
      rw [itemI_back c h, hx.1, hx.2]
    · rw [if_neg hx] at h; exact absurd rfl h
  | [], h => exact absurd rfl h
  | [_], h => exact absurd rfl h
  | [_, _], h => exact absurd rfl h
  | _ :: _ :: _ :: _ :: _, h => exact absurd rfl h
theorem rdOp_back (l : List UInt8) (o : Op3) (h : rdOp l = some o) (ho : isOpB o = true) : opTxt o = l := by
  have htx := isOp_tx ho
  cases l with
  | nil => simp [rdOp] at h
  | cons c r =>
    have e : rdOp (c :: r) = if whatI c = 0 then none else rdTail (whatI c) r := rfl
    rw [e] at h
    by_cases hw : whatI c = 0
    · rw [if_pos hw] at h; cases h
    · rw [if_neg hw] at h
      have hwc := whatI_back c hw
      unfold rdTail at h
      cases he : endsB (whatI c) with
      | true =>
        rw [he, if_pos rfl] at h
        obtain ⟨t, ht, rfl⟩ := Option.map_eq_some_iff.1 h
        have := rdDeal_small r t ht htx.2
        simp [opTxt, he, hwc, this]
      | false =>
        rw [he, if_neg (by simp)] at h
        by_cases hi : rdItem (r.drop (r.length - 3)) = 0
        · rw [if_pos hi] at h; cases h
        · rw [if_neg hi] at h
          obtain ⟨t, ht, rfl⟩ := Option.map_eq_some_iff.1 h
          have h1 := rdDeal_small _ t ht htx.2
          have h2 := rdItem_back _ hi
          have h3 : r = r.take (r.length - 3) ++ r.drop (r.length - 3) := (List.take_append_drop _ _).symm
          rw [h1, h2] at h3
          have h4 : opTxt (t, whatI c, rdItem (r.drop (r.length - 3))) = c :: ([digC t] ++ [40, (96 + (rdItem (r.drop (r.length - 3))).toNat).toUInt8, 41]) := by
            simp [opTxt, he, hwc]
          rw [h4]
          exact congrArg (c :: ·) h3.symm

/-! ### Whole texts and back -/
theorem rdW_back : ∀ (n : Nat) (l : List UInt8) (ds : List Op3), rdW n l = some ds → (∀ o ∈ ds, isOpB o = true) → ds ≠ [] ∧ txtL ds = l := by
  intro n
  induction n with
  | zero => intro l ds h; simp [rdW] at h
  | succ n ih =>
    intro l ds h ho
    unfold rdW at h
    cases hc : (cutW l).2 with
    | none =>
      rw [hc] at h
      simp only at h
      obtain ⟨o, h1, rfl⟩ := Option.map_eq_some_iff.1 h
      have := rdOp_back _ o h1 (ho o (by simp))
      rw [(cutW_none hc).1] at this
      exact ⟨by simp, by simp [txtL, this]⟩
    | some r =>
      rw [hc] at h
      simp only at h
      cases h1 : rdOp (cutW l).1 with
      | none => rw [h1] at h; cases h
      | some o =>
        rw [h1] at h
        simp only at h
        obtain ⟨x, h2, rfl⟩ := Option.map_eq_some_iff.1 h
        obtain ⟨hx, hxt⟩ := ih r x h2 (fun y hy => ho y (by simp [hy]))
        have h3 := rdOp_back _ o h1 (ho o (by simp))
        refine ⟨by simp, ?_⟩
        rw [(cutW_some hc).1, ← h3]
        cases x with
        | nil => exact absurd rfl hx
        | cons a t => simp [txtL, ← hxt]
theorem rdW_txt : ∀ (ds : List Op3) (n : Nat), (∀ o ∈ ds, isOpB o = true) → ds ≠ [] → ds.length ≤ n → rdW n (txtL ds) = some ds := by
  intro ds
  induction ds with
  | nil => intro n _ h; exact absurd rfl h
  | cons o r ih =>
    intro n ho _ hn
    cases n with
    | zero => simp at hn
    | succ n =>
      have hob := opTxt_blank o (ho o (by simp))
      have hro := rdOp_opTxt o (ho o (by simp))
      cases r with
      | nil =>
        have e : txtL [o] = opTxt o := by simp [txtL]
        rw [e]
        unfold rdW
        rw [cutW_free hob]
        simp [hro]
      | cons a t =>
        have e : txtL (o :: a :: t) = opTxt o ++ 32 :: txtL (a :: t) := by simp [txtL]
        rw [e]
        unfold rdW
        rw [cutW_app _ hob]
        simp only [hro]
        rw [ih n (fun x hx => ho x (by simp [hx])) (by simp) (by simp at hn ⊢; omega)]
        rfl
theorem txtL_count (ds : List Op3) : ds.length ≤ (txtL ds).length := by
  have h : ∀ r : List Op3, r.length ≤ (r.flatMap fun x => 32 :: opTxt x).length := by
    intro r
    induction r with
    | nil => simp
    | cons a r ih => simp only [List.flatMap_cons, List.length_append, List.length_cons]; omega
  cases ds with
  | nil => simp
  | cons a r => have := (opTxt_len a).2; have := h r; simp only [txtL, List.length_append, List.length_cons]; omega
/-- A text that is read as a right list is that list's. -/
theorem parse_back (l : List UInt8) (ds : List Op3) (h : parseT l = some ds) (hc : ∀ o ∈ ds, isOpB o = true) : txtL ds = l := by
  unfold parseT at h
  by_cases hl : l = []
  · rw [if_pos hl] at h
    obtain rfl : ds = [] := (Option.some.inj h).symm
    rw [hl]; rfl
  · rw [if_neg hl] at h
    exact (rdW_back _ l ds h hc).2
/-- A right list's text is read as that list. -/
theorem parse_txt (ds : List Op3) (hc : ∀ o ∈ ds, isOpB o = true) : parseT (txtL ds) = some ds := by
  unfold parseT
  cases ds with
  | nil => rfl
  | cons a r =>
    have hne : txtL (a :: r) ≠ [] := by
      intro e; have := (opTxt_len a).2; simp [txtL] at e; rw [e.1] at this; simp at this
    rw [if_neg hne]
    exact rdW_txt _ _ hc (by simp) (by have := txtL_count (a :: r); omega)
end Go.Proofs.YtjaeaanpbdmfgaaDoor
