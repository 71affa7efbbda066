/-
  PROVED HERE: plain facts, with no word of the program: the rising list of all deals that edges name; the least of those that could be next, looked for along that list, is the program's next.
  Conditions: none.
-/
import Derived.Test.YtjcaekhkeobhpahDoorMgad
import Derived.Test.YtjcaekhkeobhpahDoorGraphEitherPlain
namespace Go.Proofs.YtjcaekhkeobhpahDoor

theorem putL_mem (l : List Int) (n x : Int) : x ∈ putL l n ↔ x = n ∨ x ∈ l := by
  induction l with
  | nil => simp [putL]
  | cons a r ih =>
    unfold putL
    split
    · rename_i h; subst h; simp
    · split
      · simp
      · rw [List.mem_cons, ih, List.mem_cons]
        constructor
        · rintro (h | h | h)
          · exact .inr (.inl h)
          · exact .inl h
          · exact .inr (.inr h)
        · rintro (h | h | h)
          · exact .inr (.inl h)
          · exact .inl h
          · exact .inr (.inr h)
theorem putL_rise {l : List Int} (h : l.Pairwise (· < ·)) (n : Int) : (putL l n).Pairwise (· < ·) := by
  induction l with
  | nil => simp [putL]
  | cons a r ih =>
    obtain ⟨h1, h2⟩ := List.pairwise_cons.1 h
    unfold putL
    split
    · exact h
    · rename_i hne
      split
      · rename_i hlt
        refine List.pairwise_cons.2 ⟨fun x hx => ?_, h⟩
        rcases List.mem_cons.1 hx with rfl | hx
        · exact hlt
        · have := h1 x hx; omega
      · refine List.pairwise_cons.2 ⟨fun x hx => ?_, ih h2⟩
        rcases (putL_mem r n x).1 hx with rfl | hx
        · omega
        · exact h1 x hx
/-- All deals that edges name, rising. -/
def namedI (l : List Edge2) : List Int := l.foldl (fun d e => putL (putL d e.1) e.2) []
theorem namedI_snoc (l : List Edge2) (e : Edge2) : namedI (l ++ [e]) = putL (putL (namedI l) e.1) e.2 := by simp [namedI]
theorem rev_ind {P : List Edge2 → Prop} (h0 : P []) (h1 : ∀ l e, P l → P (l ++ [e])) (l : List Edge2) : P l := by
  have : ∀ n (l : List Edge2), l.length = n → P l := by
    intro n
    induction n with
    | zero => intro l hl; rw [List.length_eq_zero_iff.1 hl]; exact h0
    | succ n ih =>
      intro l hl
      have hne : l ≠ [] := fun e => by rw [e] at hl; simp at hl
      rw [← List.dropLast_concat_getLast hne]
      exact h1 _ _ (ih _ (by rw [List.length_dropLast, hl]; rfl))
  exact this _ l rfl
theorem namedI_rise (l : List Edge2) : (namedI l).Pairwise (· < ·) := by
  refine rev_ind (P := fun l => (namedI l).Pairwise (· < ·)) (by simp [namedI]) (fun l e ih => ?_) l
  rw [namedI_snoc]
  exact putL_rise (putL_rise ih _) _
theorem namedI_len (l : List Edge2) : (namedI l).length ≤ 2 * l.length := by
  refine rev_ind (P := fun l => (namedI l).length ≤ 2 * l.length) (by simp [namedI]) (fun l e ih => ?_) l
  rw [namedI_snoc, List.length_append]
  have h1 := putL_len (putL (namedI l) e.1) e.2
  have h2 := putL_len (namedI l) e.1
  simp only [List.length_singleton]
  omega
theorem namedI_mem (l : List Edge2) (x : Int) : x ∈ namedI l ↔ ∃ e ∈ l, x = e.1 ∨ x = e.2 := by
  refine rev_ind (P := fun l => x ∈ namedI l ↔ ∃ e ∈ l, x = e.1 ∨ x = e.2) (by simp [namedI]) (fun l e ih => ?_) l
  rw [namedI_snoc, putL_mem, putL_mem, ih]
  constructor
  · rintro (h | h | ⟨f, hf, h⟩)
    · exact ⟨e, by simp, .inr h⟩
    · exact ⟨e, by simp, .inl h⟩
    · exact ⟨f, List.mem_append_left _ hf, h⟩
  · rintro ⟨f, hf, h⟩
    rcases List.mem_append.1 hf with hf | hf
    · exact .inr (.inr ⟨f, hf, h⟩)
    · rw [List.mem_singleton.1 hf] at h
      rcases h with h | h
      · exact .inr (.inl h)
      · exact .inl h
theorem namedI_deal {l : List Edge2} (hr : Right l) {x : Int} (h : x ∈ namedI l) : 1 ≤ x ∧ x ≤ 6 := by
  obtain ⟨e, he, h2⟩ := (namedI_mem l x).1 h
  have := hr e he
  rcases h2 with h2 | h2 <;> omega
theorem namedS_I (l : List Edge2) (t : Nat) : namedS l t = inB (namedI l) (t : Int) := by
  rw [Bool.eq_iff_iff, inB_iff, namedI_mem]
  unfold namedS
  rw [List.any_eq_true]
  constructor
  · rintro ⟨e, he, h⟩
    simp only [Bool.or_eq_true, beq_iff_eq] at h
    exact ⟨e, he, h.imp Eq.symm Eq.symm⟩
  · rintro ⟨e, he, h⟩
    exact ⟨e, he, by simp only [Bool.or_eq_true, beq_iff_eq]; exact h.imp Eq.symm Eq.symm⟩
/-- Those of a list that are not out yet. -/
def leftS (d out : List Int) : Set7 := fun t => inB d (t : Int) && !inB out (t : Int)
/-- May a deal be next? -/
def blockB (d out : List Int) (x : Int) (e : Edge2) : Bool := e.2 == x && (inB d e.1 && !inB out e.1)
def okD (d : List Int) (l : List Edge2) (out : List Int) (x : Int) : Bool := !inB out x && !l.any (blockB d out x)
theorem any_same {q r : Edge2 → Bool} : ∀ {l : List Edge2}, (∀ e ∈ l, q e = r e) → l.any q = l.any r := by
  intro l
  induction l with
  | nil => intro _; rfl
  | cons a t ih =>
    intro h
    rw [List.any_cons, List.any_cons, h a (List.mem_cons_self ..), ih fun e he => h e (List.mem_cons_of_mem _ he)]
theorem ok_free {l : List Edge2} (hr : Right l) (d out : List Int) (t : Nat) (ht : (t : Int) ∈ d) : okD d l out (t : Int) = freeB l (leftS d out) t := by
  unfold okD freeB
  have h1 : leftS d out t = !inB out (t : Int) := by unfold leftS; rw [inB_iff.2 ht]; rfl
  rw [h1]
  congr 2
  refine any_same fun e he => ?_
  have := hr e he
  unfold blockB holdB leftS
  rw [Int.toNat_of_nonneg (by omega)]
/-- The first of a list that may be next. -/
def firstD (d : List Int) (l : List Edge2) (out : List Int) (k : Nat) : Int := ((d.take k).find? (okD d l out)).getD 0
theorem firstD_next {l : List Edge2} (hr : Right l) (out : List Int) : firstD (namedI l) l out (namedI l).length = (nextN l (leftS (namedI l) out) : Int) := by
  unfold firstD
  rw [List.take_length]
  have hnot : ∀ j : Nat, (j : Int) ∉ namedI l → freeB l (leftS (namedI l) out) j = false := fun j hj => by
    unfold freeB leftS
    rw [inB_not.2 hj]; rfl
  cases hf : (namedI l).find? (okD (namedI l) l out) with
  | none =>
    have h1 := List.find?_eq_none.1 hf
    rw [next_none fun j _ _ => ?_]
    · rfl
    · by_cases hj : (j : Int) ∈ namedI l
      · rw [← ok_free hr _ _ _ hj]
        simpa using h1 _ hj
      · exact hnot j hj
  | some x =>
    obtain ⟨hx, pa, pb, hsplit, hno⟩ := List.find?_eq_some_iff_append.1 hf
    have hxm : x ∈ namedI l := by rw [hsplit]; simp
    have hd := namedI_deal hr hxm
    obtain ⟨t, rfl⟩ : ∃ t : Nat, x = t := ⟨x.toNat, by omega⟩
    rw [next_hit (t := t) (by omega) (by omega) (by rw [← ok_free hr _ _ _ hxm]; exact hx) fun j hj1 hj => ?_]
    · rfl
    · by_cases hjm : (j : Int) ∈ namedI l
      · have hja : (j : Int) ∈ pa := by
          have hj2 := hjm
          rw [hsplit] at hj2
          rcases List.mem_append.1 hj2 with h | h
          · exact h
          · have hrise := namedI_rise l
            rw [hsplit] at hrise
            have h2 := (List.pairwise_append.1 hrise).2.1
            rcases List.mem_cons.1 h with h | h
            · have : j = t := by omega
              omega
            · have := (List.pairwise_cons.1 h2).1 _ h
              omega
        have := hno _ hja
        rw [← ok_free hr _ _ _ hjm]
        simpa using this
      · exact hnot j hjm
theorem firstD_zero (d : List Int) (l : List Edge2) (out : List Int) : firstD d l out 0 = 0 := by simp [firstD]
/-- One more of a rising list: only where there was none. -/
theorem firstD_succ {d : List Int} {l : List Edge2} {out : List Int} {k : Nat} {x : Int} (hk : d[k]? = some x) (hrise : d.Pairwise (· < ·)) (hpos : ∀ y ∈ d, 1 ≤ y) :
    firstD d l out (k + 1) = if okD d l out x = true ∧ (firstD d l out k = 0 ∨ x < firstD d l out k) then x else firstD d l out k := by
  have hlt := (List.getElem?_eq_some_iff.1 hk).1
  have hx : d[k] = x := (List.getElem?_eq_some_iff.1 hk).2
  unfold firstD
  rw [List.take_succ_eq_append_getElem hlt, hx, List.find?_append]
  cases hf : (d.take k).find? (okD d l out) with
  | none =>
    by_cases ho : okD d l out x = true
    · simp [ho]
    · simp [ho]
  | some y =>
    have hy := List.mem_of_find?_eq_some hf
    have hyd : y ∈ d := List.mem_of_mem_take hy
    have h1 := hpos y hyd
    have hyx : y < x := by
      have h2 : d = d.take k ++ x :: d.drop (k + 1) := by
        rw [← hx, ← List.drop_eq_getElem_cons hlt, List.take_append_drop]
      rw [h2] at hrise
      exact (List.pairwise_append.1 hrise).2.2 y hy x (List.mem_cons_self ..)
    have hn : ¬ (okD d l out x = true ∧ (y = 0 ∨ x < y)) := fun ⟨_, h⟩ => by omega
    simp only [Option.some_or, Option.getD_some]
    rw [if_neg hn]
theorem leftS_next {d out : List Int} {t : Nat} : leftS d (out ++ [(t : Int)]) = setS (leftS d out) t false := by
  funext k
  unfold leftS setS
  by_cases h : k = t
  · subst h
    rw [if_pos rfl, (inB_iff (l := out ++ [(k : Int)])).2 (by simp)]
    simp
  · rw [if_neg h]
    congr 2
    rw [Bool.eq_iff_iff, inB_iff, inB_iff, List.mem_append, List.mem_singleton]
    constructor
    · rintro (h1 | h1)
      · exact h1
      · omega
    · exact .inl
theorem leftS_start (l : List Edge2) : leftS (namedI l) [] = namedS l := by
  funext t
  rw [namedS_I]
  unfold leftS
  rw [inB_not.2 (by simp : (t : Int) ∉ ([] : List Int))]
  simp
theorem setOf_iff : ∀ (r : List Nat) (k : Nat), setOf r k = true ↔ k ∈ r := by
  intro r
  induction r with
  | nil => intro k; simp [setOf]
  | cons t r ih =>
    intro k
    show setS (setOf r) t true k = true ↔ k ∈ t :: r
    unfold setS
    by_cases h : k = t
    · simp [h]
    · rw [if_neg h, ih]; simp [h]
theorem cnt_named {l : List Edge2} (hr : Right l) : cntS (namedS l) = (namedI l).length := by
  have hd : ∀ x ∈ namedI l, 1 ≤ x ∧ x ≤ 6 := fun x hx => namedI_deal hr hx
  have h1 : namedS l = setOf ((namedI l).map Int.toNat) := by
    funext t
    rw [Bool.eq_iff_iff, namedS_I, inB_iff, setOf_iff, List.mem_map]
    constructor
    · intro h; exact ⟨_, h, by simp⟩
    · rintro ⟨x, hx, rfl⟩
      have := hd x hx
      rw [Int.toNat_of_nonneg (by omega)]; exact hx
  rw [h1, nodup_short, List.length_map]
  · have h2 := namedI_rise l
    rw [List.nodup_iff_pairwise_ne, List.pairwise_map]
    refine List.Pairwise.imp_of_mem (fun {a b} ha hb hab => ?_) h2
    have := hd a ha; have := hd b hb
    omega
  · intro k hk
    obtain ⟨x, hx, rfl⟩ := List.mem_map.1 hk
    have := hd x hx
    omega
theorem any_cnt {s : Set7} (h : anyS s = false) : cntS s = 0 := by
  have hz : ∀ k, k < 7 → s k = false := fun k hk => by
    have := List.any_eq_false.1 h k (List.mem_range.2 hk)
    simpa using this
  unfold cntS
  rw [hz 0 (by omega), hz 1 (by omega), hz 2 (by omega), hz 3 (by omega), hz 4 (by omega), hz 5 (by omega), hz 6 (by omega)]
  rfl
end Go.Proofs.YtjcaekhkeobhpahDoor
