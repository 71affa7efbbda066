/-
  PROVED HERE: plain facts, with no word of the program: the rising list of all deals that edges name; the least of those that could be next, looked for along that list, is the program's next.
  Conditions: none.
  PROVED HERE: plain facts, with no word of the program: rising lists that have the same members are one; the rising list of the deals of ops; a list sorted is a rising one just if it has its members, each once.
  Conditions: none.
  PROVED HERE: plain facts, with no word of the program: of deals that come one behind the other by rising numbers, and all commit, the runs of chapters 11, 12 and 14 do all, and come to the same; what is seen is what the history's Reads read.
  Conditions: none.
  PROVED HERE: plain facts, with no word of the program: the order of all deals, the least that could be next first, is that of the deals that edges name, with the others woven in, each as soon as it is less than the next one.
  Conditions: none.
-/
import Derived.Test.YtccjognnehoodahGreatMgad
import Derived.Test.YtccjognnehoodahGreatMgae
import Derived.Test.YtccjognnehoodahGreatMgac
import Derived.Test.YtccjognnehoodahGreatMgak
import Derived.Test.YtccjognnehoodahGreatMgah
import Derived.Test.YtccjognnehoodahGreatMgai
namespace Go.Proofs.YtccjognnehoodahGreat

theorem putL_mem (l : List Int) (n x : Int) : x ∈ putL l n ↔ x = n ∨ x ∈ l := by
  induction l with
  | nil => simp [putL]
  | cons a r ih =>
    unfold putL
    split
    · rename_i h; subst h; simp
    · split
      · simp
      · rw [List.mem_cons, ih, List.mem_cons]
        constructor
        · rintro (h | h | h)
          · exact .inr (.inl h)
          · exact .inl h
          · exact .inr (.inr h)
        · rintro (h | h | h)
          · exact .inr (.inl h)
          · exact .inl h
          · exact .inr (.inr h)
theorem putL_rise {l : List Int} (h : l.Pairwise (· < ·)) (n : Int) : (putL l n).Pairwise (· < ·) := by
  induction l with
  | nil => simp [putL]
  | cons a r ih =>
    obtain ⟨h1, h2⟩ := List.pairwise_cons.1 h
    unfold putL
    split
    · exact h
    · rename_i hne
      split
      · rename_i hlt
        refine List.pairwise_cons.2 ⟨fun x hx => ?_, h⟩
        rcases List.mem_cons.1 hx with rfl | hx
        · exact hlt
        · have := h1 x hx; omega
      · refine List.pairwise_cons.2 ⟨fun x hx => ?_, ih h2⟩
        rcases (putL_mem r n x).1 hx with rfl | hx
        · omega
        · exact h1 x hx
/-- All deals that edges name, rising. -/
def namedI (l : List Edge2) : List Int := l.foldl (fun d e => putL (putL d e.1) e.2) []
theorem namedI_snoc (l : List Edge2) (e : Edge2) : namedI (l ++ [e]) = putL (putL (namedI l) e.1) e.2 := by simp [namedI]
theorem rev_ind {P : List Edge2 → Prop} (h0 : P []) (h1 : ∀ l e, P l → P (l ++ [e])) (l : List Edge2) : P l := by
  have : ∀ n (l : List Edge2), l.length = n → P l := by
    intro n
    induction n with
    | zero => intro l hl; rw [List.length_eq_zero_iff.1 hl]; exact h0
    | succ n ih =>
      intro l hl
      have hne : l ≠ [] := fun e => by rw [e] at hl; simp at hl
      rw [← List.dropLast_concat_getLast hne]
      exact h1 _ _ (ih _ (by rw [List.length_dropLast, hl]; rfl))
  exact this _ l rfl
theorem namedI_rise (l : List Edge2) : (namedI l).Pairwise (· < ·) := by
  refine rev_ind (P := fun l => (namedI l).Pairwise (· < ·)) (by simp [namedI]) (fun l e ih => ?_) l
  rw [namedI_snoc]
  exact putL_rise (putL_rise ih _) _
theorem namedI_len (l : List Edge2) : (namedI l).length ≤ 2 * l.length := by
  refine rev_ind (P := fun l => (namedI l).length ≤ 2 * l.length) (by simp [namedI]) (fun l e ih => ?_) l
  rw [namedI_snoc, List.length_append]
  have h1 := putL_len (putL (namedI l) e.1) e.2
  have h2 := putL_len (namedI l) e.1
  simp only [List.length_singleton]
  omega
theorem namedI_mem (l : List Edge2) (x : Int) : x ∈ namedI l ↔ ∃ e ∈ l, x = e.1 ∨ x = e.2 := by
  refine rev_ind (P := fun l => x ∈ namedI l ↔ ∃ e ∈ l, x = e.1 ∨ x = e.2) (by simp [namedI]) (fun l e ih => ?_) l
  rw [namedI_snoc, putL_mem, putL_mem, ih]
  constructor
  · rintro (h | h | ⟨f, hf, h⟩)
    · exact ⟨e, by simp, .inr h⟩
    · exact ⟨e, by simp, .inl h⟩
    · exact ⟨f, List.mem_append_left _ hf, h⟩
  · rintro ⟨f, hf, h⟩
    rcases List.mem_append.1 hf with hf | hf
    · exact .inr (.inr ⟨f, hf, h⟩)
    · rw [List.mem_singleton.1 hf] at h
      rcases h with h | h
      · exact .inr (.inl h)
      · exact .inl h
theorem namedI_deal {l : List Edge2} (hr : Right l) {x : Int} (h : x ∈ namedI l) : 1 ≤ x ∧ x ≤ 6 := by
  obtain ⟨e, he, h2⟩ := (namedI_mem l x).1 h
  have := hr e he
  rcases h2 with h2 | h2 <;> omega
theorem namedS_I (l : List Edge2) (t : Nat) : namedS l t = inB (namedI l) (t : Int) := by
  rw [Bool.eq_iff_iff, inB_iff, namedI_mem]
  unfold namedS
  rw [List.any_eq_true]
  constructor
  · rintro ⟨e, he, h⟩
    simp only [Bool.or_eq_true, beq_iff_eq] at h
    exact ⟨e, he, h.imp Eq.symm Eq.symm⟩
  · rintro ⟨e, he, h⟩
    exact ⟨e, he, by simp only [Bool.or_eq_true, beq_iff_eq]; exact h.imp Eq.symm Eq.symm⟩
/-- Those of a list that are not out yet. -/
def leftS (d out : List Int) : Set7 := fun t => inB d (t : Int) && !inB out (t : Int)
/-- May a deal be next? -/
def blockB (d out : List Int) (x : Int) (e : Edge2) : Bool := e.2 == x && (inB d e.1 && !inB out e.1)
def okD (d : List Int) (l : List Edge2) (out : List Int) (x : Int) : Bool := !inB out x && !l.any (blockB d out x)
theorem any_same {q r : Edge2 → Bool} : ∀ {l : List Edge2}, (∀ e ∈ l, q e = r e) → l.any q = l.any r := by
  intro l
  induction l with
  | nil => intro _; rfl
  | cons a t ih =>
    intro h
    rw [List.any_cons, List.any_cons, h a (List.mem_cons_self ..), ih fun e he => h e (List.mem_cons_of_mem _ he)]
theorem ok_free {l : List Edge2} (hr : Right l) (d out : List Int) (t : Nat) (ht : (t : Int) ∈ d) : okD d l out (t : Int) = freeB l (leftS d out) t := by
  unfold okD freeB
  have h1 : leftS d out t = !inB out (t : Int) := by unfold leftS; rw [inB_iff.2 ht]; rfl
  rw [h1]
  congr 2
  refine any_same fun e he => ?_
  have := hr e he
  unfold blockB holdB leftS
  rw [Int.toNat_of_nonneg (by omega)]
/-- The first of a list that may be next. -/
def firstD (d : List Int) (l : List Edge2) (out : List Int) (k : Nat) : Int := ((d.take k).find? (okD d l out)).getD 0
theorem firstD_next {l : List Edge2} (hr : Right l) (out : List Int) : firstD (namedI l) l out (namedI l).length = (nextN l (leftS (namedI l) out) : Int) := by
  unfold firstD
  rw [List.take_length]
  have hnot : ∀ j : Nat, (j : Int) ∉ namedI l → freeB l (leftS (namedI l) out) j = false := fun j hj => by
    unfold freeB leftS
    rw [inB_not.2 hj]; rfl
  cases hf : (namedI l).find? (okD (namedI l) l out) with
  | none =>
    have h1 := List.find?_eq_none.1 hf
    rw [next_none fun j _ _ => ?_]
    · rfl
    · by_cases hj : (j : Int) ∈ namedI l
      · rw [← ok_free hr _ _ _ hj]
        simpa using h1 _ hj
      · exact hnot j hj
  | some x =>
    obtain ⟨hx, pa, pb, hsplit, hno⟩ := List.find?_eq_some_iff_append.1 hf
    have hxm : x ∈ namedI l := by rw [hsplit]; simp
    have hd := namedI_deal hr hxm
    obtain ⟨t, rfl⟩ : ∃ t : Nat, x = t := ⟨x.toNat, by omega⟩
    rw [next_hit (t := t) (by omega) (by omega) (by rw [← ok_free hr _ _ _ hxm]; exact hx) fun j hj1 hj => ?_]
    · rfl
    · by_cases hjm : (j : Int) ∈ namedI l
      · have hja : (j : Int) ∈ pa := by
          have hj2 := hjm
          rw [hsplit] at hj2
          rcases List.mem_append.1 hj2 with h | h
          · exact h
          · have hrise := namedI_rise l
            rw [hsplit] at hrise
            have h2 := (List.pairwise_append.1 hrise).2.1
            rcases List.mem_cons.1 h with h | h
            · have : j = t := by omega
              omega
            · have := (List.pairwise_cons.1 h2).1 _ h
              omega
        have := hno _ hja
        rw [← ok_free hr _ _ _ hjm]
        simpa using this
      · exact hnot j hjm
theorem firstD_zero (d : List Int) (l : List Edge2) (out : List Int) : firstD d l out 0 = 0 := by simp [firstD]
/-- One more of a rising list: only where there was none. -/
theorem firstD_succ {d : List Int} {l : List Edge2} {out : List Int} {k : Nat} {x : Int} (hk : d[k]? = some x) (hrise : d.Pairwise (· < ·)) (hpos : ∀ y ∈ d, 1 ≤ y) :
    firstD d l out (k + 1) = if okD d l out x = true ∧ (firstD d l out k = 0 ∨ x < firstD d l out k) then x else firstD d l out k := by
  have hlt := (List.getElem?_eq_some_iff.1 hk).1
  have hx : d[k] = x := (List.getElem?_eq_some_iff.1 hk).2
  unfold firstD
  rw [List.take_succ_eq_append_getElem hlt, hx, List.find?_append]
  cases hf : (d.take k).find? (okD d l out) with
  | none =>
    by_cases ho : okD d l out x = true
    · simp [ho]
    · simp [ho]
  | some y =>
    have hy := List.mem_of_find?_eq_some hf
    have hyd : y ∈ d := List.mem_of_mem_take hy
    have h1 := hpos y hyd
    have hyx : y < x := by
      have h2 : d = d.take k ++ x :: d.drop (k + 1) := by
        rw [← hx, ← List.drop_eq_getElem_cons hlt, List.take_append_drop]
      rw [h2] at hrise
      exact (List.pairwise_append.1 hrise).2.2 y hy x (List.mem_cons_self ..)
    have hn : ¬ (okD d l out x = true ∧ (y = 0 ∨ x < y)) := fun ⟨_, h⟩ => by omega
    simp only [Option.some_or, Option.getD_some]
    rw [if_neg hn]
theorem leftS_next {d out : List Int} {t : Nat} : leftS d (out ++ [(t : Int)]) = setS (leftS d out) t false := by
  funext k
  unfold leftS setS
  by_cases h : k = t
  · subst h
    rw [if_pos rfl, (inB_iff (l := out ++ [(k : Int)])).2 (by simp)]
    simp
  · rw [if_neg h]
    congr 2
    rw [Bool.eq_iff_iff, inB_iff, inB_iff, List.mem_append, List.mem_singleton]
    constructor
    · rintro (h1 | h1)
      · exact h1
      · omega
    · exact .inl
theorem leftS_start (l : List Edge2) : leftS (namedI l) [] = namedS l := by
  funext t
  rw [namedS_I]
  unfold leftS
  rw [inB_not.2 (by simp : (t : Int) ∉ ([] : List Int))]
  simp
theorem setOf_iff : ∀ (r : List Nat) (k : Nat), setOf r k = true ↔ k ∈ r := by
  intro r
  induction r with
  | nil => intro k; simp [setOf]
  | cons t r ih =>
    intro k
    show setS (setOf r) t true k = true ↔ k ∈ t :: r
    unfold setS
    by_cases h : k = t
    · simp [h]
    · rw [if_neg h, ih]; simp [h]
theorem cnt_named {l : List Edge2} (hr : Right l) : cntS (namedS l) = (namedI l).length := by
  have hd : ∀ x ∈ namedI l, 1 ≤ x ∧ x ≤ 6 := fun x hx => namedI_deal hr hx
  have h1 : namedS l = setOf ((namedI l).map Int.toNat) := by
    funext t
    rw [Bool.eq_iff_iff, namedS_I, inB_iff, setOf_iff, List.mem_map]
    constructor
    · intro h; exact ⟨_, h, by simp⟩
    · rintro ⟨x, hx, rfl⟩
      have := hd x hx
      rw [Int.toNat_of_nonneg (by omega)]; exact hx
  rw [h1, nodup_short, List.length_map]
  · have h2 := namedI_rise l
    rw [List.nodup_iff_pairwise_ne, List.pairwise_map]
    refine List.Pairwise.imp_of_mem (fun {a b} ha hb hab => ?_) h2
    have := hd a ha; have := hd b hb
    omega
  · intro k hk
    obtain ⟨x, hx, rfl⟩ := List.mem_map.1 hk
    have := hd x hx
    omega
theorem any_cnt {s : Set7} (h : anyS s = false) : cntS s = 0 := by
  have hz : ∀ k, k < 7 → s k = false := fun k hk => by
    have := List.any_eq_false.1 h k (List.mem_range.2 hk)
    simpa using this
  unfold cntS
  rw [hz 0 (by omega), hz 1 (by omega), hz 2 (by omega), hz 3 (by omega), hz 4 (by omega), hz 5 (by omega), hz 6 (by omega)]
  rfl
end Go.Proofs.YtccjognnehoodahGreat

namespace Go.Proofs.YtccjognnehoodahGreat

theorem rise_uniq : ∀ (l m : List Int), l.Pairwise (· < ·) → m.Pairwise (· < ·) → (∀ x, x ∈ l ↔ x ∈ m) → l = m := by
  intro l
  induction l with
  | nil =>
    intro m _ _ h
    cases m with
    | nil => rfl
    | cons b r => exact absurd ((h b).2 (List.mem_cons_self ..)) (by simp)
  | cons a l ih =>
    intro m hl hm h
    cases m with
    | nil => exact absurd ((h a).1 (List.mem_cons_self ..)) (by simp)
    | cons b r =>
      obtain ⟨l1, l2⟩ := List.pairwise_cons.1 hl
      obtain ⟨m1, m2⟩ := List.pairwise_cons.1 hm
      have hab : a = b := by
        rcases List.mem_cons.1 ((h a).1 (List.mem_cons_self ..)) with e | e
        · exact e
        · rcases List.mem_cons.1 ((h b).2 (List.mem_cons_self ..)) with e2 | e2
          · exact e2.symm
          · have := m1 a e; have := l1 b e2; omega
      subst hab
      congr 1
      refine ih r l2 m2 fun x => ⟨fun hx => ?_, fun hx => ?_⟩
      · rcases List.mem_cons.1 ((h x).1 (List.mem_cons_of_mem _ hx)) with e | e
        · have := l1 x hx; omega
        · exact e
      · rcases List.mem_cons.1 ((h x).2 (List.mem_cons_of_mem _ hx)) with e | e
        · have := m1 x hx; omega
        · exact e
theorem rise_nodup {l : List Int} (h : l.Pairwise (· < ·)) : l.Nodup := by
  rw [List.nodup_iff_pairwise_ne]
  exact h.imp fun {a b} hab => by omega
theorem dealsTo_in (l : List Op3) {t : Int} (h1 : 1 ≤ t) (h : hasB l t = true) : ∀ n : Nat, t ≤ n → t ∈ dealsTo l n := by
  intro n
  induction n with
  | zero => intro h2; omega
  | succ n ih =>
    intro h2
    simp only [dealsTo]
    by_cases e : t = (n : Int) + 1
    · subst e; rw [if_pos h]; simp
    · exact List.mem_append_left _ (ih (by omega))
theorem mem_deals {l : List Op3} {t : Int} : t ∈ dealsL l ↔ (1 ≤ t ∧ t ≤ 6 ∧ hasB l t = true) := by
  constructor
  · intro h
    have := dealsTo_mem l 6 t h
    exact ⟨this.1, by have := this.2.1; omega, this.2.2⟩
  · rintro ⟨h1, h2, h3⟩
    exact dealsTo_in l h1 h3 6 (by omega)
theorem hasB_iff {l : List Op3} {t : Int} : hasB l t = true ↔ ∃ o ∈ l, o.1 = t := by simp [hasB]
/-- Numbers put in one by one. -/
def putsL (o : List Int) : List Int := o.foldl putL []
theorem puts_mem (x : Int) : ∀ (o acc : List Int), x ∈ o.foldl putL acc ↔ (x ∈ acc ∨ x ∈ o) := by
  intro o
  induction o with
  | nil => intro acc; simp
  | cons a r ih =>
    intro acc
    rw [List.foldl_cons, ih, putL_mem, List.mem_cons]
    constructor
    · rintro ((h | h) | h)
      · exact .inr (.inl h)
      · exact .inl h
      · exact .inr (.inr h)
    · rintro (h | h | h)
      · exact .inl (.inr h)
      · exact .inl (.inl h)
      · exact .inr h
theorem puts_rise : ∀ (o acc : List Int), acc.Pairwise (· < ·) → (o.foldl putL acc).Pairwise (· < ·) := by
  intro o
  induction o with
  | nil => intro acc h; exact h
  | cons a r ih => intro acc h; exact ih _ (putL_rise h a)
theorem puts_len : ∀ (o acc : List Int), (o.foldl putL acc).length ≤ acc.length + o.length := by
  intro o
  induction o with
  | nil => intro acc; simp
  | cons a r ih =>
    intro acc
    have h1 := ih (putL acc a)
    have h2 := putL_len acc a
    simp only [List.foldl_cons, List.length_cons]
    omega
theorem putsL_snoc (o : List Int) (x : Int) : putsL (o ++ [x]) = putL (putsL o) x := by simp [putsL]
theorem putsL_len (o : List Int) : (putsL o).length ≤ o.length := by
  have := puts_len o []
  simpa [putsL] using this
theorem mem_puts {o : List Int} {x : Int} : x ∈ putsL o ↔ x ∈ o := by
  have := puts_mem x o []
  simpa [putsL] using this
theorem putsL_rise (o : List Int) : (putsL o).Pairwise (· < ·) := puts_rise o [] List.Pairwise.nil
theorem dealsL_rise (l : List Op3) : (dealsL l).Pairwise (· < ·) := dealsTo_rise l 6
/-- The deals of ops, put in one by one, are those of the program. -/
theorem puts_deals {l : List Op3} (h : ∀ o ∈ l, 1 ≤ o.1 ∧ o.1 ≤ 6) : putsL (l.map (·.1)) = dealsL l := by
  refine rise_uniq _ _ (putsL_rise _) (dealsL_rise l) fun x => ?_
  rw [mem_puts, mem_deals, hasB_iff, List.mem_map]
  constructor
  · rintro ⟨o, ho, rfl⟩
    exact ⟨(h o ho).1, (h o ho).2, o, ho, rfl⟩
  · rintro ⟨_, _, o, ho, e⟩
    exact ⟨o, ho, e⟩
/-- A list sorted. -/
def sortI (o : List Int) : List Int := o.mergeSort fun x y => decide (x ≤ y)
theorem sortI_perm (o : List Int) : (sortI o).Perm o := List.mergeSort_perm o _
theorem sortI_sorted (o : List Int) : (sortI o).Pairwise (· ≤ ·) := by
  have := List.pairwise_mergeSort (le := fun x y : Int => decide (x ≤ y)) (by intro a b c h1 h2; simp at *; omega) (by intro a b; simp; omega) o
  exact this.imp fun {a b} hab => by simpa using hab
theorem perm_of_sub : ∀ (d o : List Int), d.Nodup → (∀ x ∈ d, x ∈ o) → o.length ≤ d.length → d.Perm o := by
  intro d
  induction d with
  | nil =>
    intro o _ _ h
    have e : o = [] := List.length_eq_zero_iff.1 (by simpa using h)
    rw [e]
  | cons a d ih =>
    intro o hn hs hl
    have ha : a ∈ o := hs a (List.mem_cons_self ..)
    have h1 := List.perm_cons_erase ha
    have h2 := List.length_erase_of_mem ha
    have hpos := List.length_pos_of_mem ha
    obtain ⟨hna, hnd⟩ := List.nodup_cons.1 hn
    refine ((ih (o.erase a) hnd (fun x hx => ?_) (by simp at hl; omega)).cons a).trans h1.symm
    have hxa : x ≠ a := fun e => hna (e ▸ hx)
    exact (List.mem_erase_of_ne hxa).2 (hs x (List.mem_cons_of_mem _ hx))
theorem sort_iff {o d : List Int} (hd : d.Pairwise (· < ·)) : sortI o = d ↔ (o.length = d.length ∧ putsL o = d) := by
  constructor
  · intro h
    have hp : d.Perm o := h ▸ sortI_perm o
    refine ⟨hp.length_eq.symm, rise_uniq _ _ (putsL_rise o) hd fun x => ?_⟩
    rw [mem_puts]
    exact hp.mem_iff.symm
  · rintro ⟨hl, h⟩
    have hp : d.Perm o := perm_of_sub d o (rise_nodup hd) (fun x hx => mem_puts.1 (h ▸ hx)) (by omega)
    have hq : (sortI o).Perm d := (sortI_perm o).trans hp.symm
    refine rise_uniq _ _ ?_ hd fun x => hq.mem_iff
    have hn : (sortI o).Nodup := hq.nodup_iff.2 (rise_nodup hd)
    rw [List.nodup_iff_pairwise_ne] at hn
    exact ((sortI_sorted o).and hn).imp fun {a b} hab => by omega
theorem sort_perm {o d : List Int} (h : sortI o = d) : o.Perm d := h ▸ (sortI_perm o).symm
/-- An order of all deals that ops name. -/
theorem order_len {l : List Op3} {o : List Int} (h : sortI o = dealsL l) : o.length ≤ 6 := by
  rw [(sort_perm h).length_eq]; exact dealsTo_len l 6
theorem order_deal {l : List Op3} {o : List Int} (h : sortI o = dealsL l) {x : Int} (hx : x ∈ o) : 1 ≤ x ∧ x ≤ 6 := by
  have := mem_deals.1 ((sort_perm h).mem_iff.1 hx)
  exact ⟨this.1, this.2.1⟩
/-- The ops of deals along an order. -/
def alongL (d : List Op3) (o : List Int) : List Op3 := o.flatMap fun t => ofL d t
theorem along_snoc (d : List Op3) (o : List Int) (t : Int) : alongL d (o ++ [t]) = alongL d o ++ ofL d t := by simp [alongL]
theorem along_len (d : List Op3) (o : List Int) : (alongL d o).length ≤ o.length * d.length := by
  induction o with
  | nil => simp [alongL]
  | cons t o ih =>
    have h1 : (ofL d t).length ≤ d.length := List.length_filter_le ..
    have h2 : alongL d (t :: o) = ofL d t ++ alongL d o := by simp [alongL]
    rw [h2, List.length_append, List.length_cons, Nat.add_mul]
    omega
end Go.Proofs.YtccjognnehoodahGreat

namespace Go.Proofs.YtccjognnehoodahGreat

/-- One behind the other, by rising numbers; all commit. -/
structure UpRun (l : List Op3) : Prop where
  chk : (chk l).2 = 0
  up : ∀ i j, i ≤ j → j < l.length → (opAt l i).1 ≤ (opAt l j).1
  ends : ∀ o ∈ l, ∃ p ∈ l, p.1 = o.1 ∧ p.2.1 = 3
theorem mem_opAt {l : List Op3} {o : Op3} (h : o ∈ l) : ∃ i, i < l.length ∧ opAt l i = o := by
  obtain ⟨i, hi, e⟩ := List.mem_iff_getElem.1 h
  exact ⟨i, hi, by rw [opAt_at hi]; exact e⟩
theorem calmU_at {l : List Op3} (h : (chk l).2 = 0) {i j : Nat} (hij : i < j) (hj : j < l.length) (he : (opAt l i).1 = (opAt l j).1) : endsB (opAt l i).2.1 = false := by
  have h1 := List.pairwise_iff_getElem.1 ((chk_iff l).1 h).2.2 i j (by omega) hj hij
  rw [← opAt_at (by omega), ← opAt_at hj] at h1
  cases hx : endsB (opAt l i).2.1 with
  | false => rfl
  | true => exact absurd ⟨he, hx⟩ h1
/-- A deal's Commit comes no earlier than any of its ops. -/
theorem UpRun.end_at {l : List Op3} (U : UpRun l) {i : Nat} (hi : i < l.length) : ∃ j, i ≤ j ∧ j < l.length ∧ (opAt l j).1 = (opAt l i).1 ∧ (opAt l j).2.1 = 3 := by
  obtain ⟨p, hp, h1, h2⟩ := U.ends (opAt l i) (by rw [opAt_at hi]; exact List.getElem_mem _)
  obtain ⟨j, hj, e⟩ := mem_opAt hp
  refine ⟨j, ?_, hj, by rw [e]; exact h1, by rw [e]; exact h2⟩
  rcases Nat.lt_or_ge j i with hlt | hge
  · have := calmU_at U.chk hlt hi (by rw [e]; exact h1)
    rw [e, h2] at this
    cases this
  · exact hge
theorem UpRun.not4 {l : List Op3} (U : UpRun l) {i : Nat} (hi : i < l.length) : (opAt l i).2.1 ≠ 4 := fun h4 => by
  obtain ⟨j, hij, hj, h1, h2⟩ := U.end_at hi
  rcases Nat.lt_or_ge i j with hlt | hge
  · have := calmU_at U.chk hlt hj h1.symm
    rw [h4] at this
    cases this
  · rw [show j = i by omega, h4] at h2
    cases h2
/-- What the Reads of the first k read. -/
def readsS (l : List Op3) : Nat → List Op3
  | 0 => []
  | k + 1 => if (opAt l k).2.1 = 1 then readsS l k ++ [((opAt l k).1, (opAt l k).2.2, (lastW l k (opAt l k).2.2).1.1)] else readsS l k
/-- How things stand. -/
structure Lvl (l : List Op3) (k : Nat) (s : Kst) (op : List Int) : Prop where
  one : op.length ≤ 1
  opn : ∀ t, t ∈ op ↔ (s.beg t = true ∧ t ∉ s.done)
  rise : s.done.Pairwise (· < ·)
  top : ∀ u ∈ s.done, ∀ i, k ≤ i → i < l.length → u < (opAt l i).1
  cur : ∀ t ∈ op, ∀ i, k ≤ i → i < l.length → t ≤ (opAt l i).1
  past : ∀ t ∈ op, ∀ u ∈ s.done, (s.of u).ended < (s.of t).began
  has : ∀ t, s.beg t = true → ∃ i, i < k ∧ (opAt l i).1 = t
  com : ∀ j, j < k → (opAt l j).2.1 = 3 → (opAt l j).1 ∈ s.done
  last : ∀ item, lastK s.of (s.done ++ op) item = (lastW l k item).1.1
  seen : seenL s.of (s.done ++ op) = readsS l k
theorem lvl0 (l : List Op3) : Lvl l 0 kst0 [] := ⟨Nat.zero_le _, fun t => ⟨fun h => (by cases h), fun h => (by cases h.1)⟩, List.Pairwise.nil, fun _ h => (by cases h), fun _ h => (by cases h), fun _ h => (by cases h), fun _ h => (by cases h), fun j h => (by omega), fun _ => rfl, rfl⟩
/-- The deal whose op comes. -/
structure LvlNow (l : List Op3) (k : Nat) (s : Kst) (op : List Int) (t : Int) (r : Dl) : Prop where
  new : t ∉ s.done
  past : ∀ u ∈ s.done, (s.of u).ended < r.began
  last : ∀ item, (lastW l k item).1.1 = if inB r.wrote item = true then t else lastK s.of s.done item
  seen : seenL s.of s.done ++ r.seen = readsS l k
  only : ∀ u ∈ op, u = t
theorem Lvl.now {l : List Op3} {k : Nat} {s : Kst} {op : List Int} (h : Lvl l k s op) (U : UpRun l) (hK : KOk l k s) (hk : k < l.length) : LvlNow l k s op (opAt l k).1 (nowK s k (opAt l k).1) := by
  have hnd : (opAt l k).1 ∉ s.done := fun hm => by have := h.top _ hm k (Nat.le_refl _) hk; omega
  by_cases ht : (opAt l k).1 ∈ op
  · have hop : op = [(opAt l k).1] := by
      have h1 := h.one
      cases op with
      | nil => cases ht
      | cons x r =>
        cases r with
        | nil => rw [List.mem_singleton.1 ht]
        | cons y r => simp at h1
    have hb := ((h.opn _).1 ht).1
    have hn : nowK s k (opAt l k).1 = s.of (opAt l k).1 := if_pos hb
    rw [hn]
    refine ⟨hnd, h.past _ ht, fun item => ?_, ?_, fun u hu => by rw [hop] at hu; exact List.mem_singleton.1 hu⟩
    · rw [← h.last item, hop, lastK_snoc]
    · rw [← h.seen, hop, seenL_snoc]
  · have hb : s.beg (opAt l k).1 = false := by
      cases hx : s.beg (opAt l k).1 with
      | false => rfl
      | true => exact absurd ((h.opn _).2 ⟨hx, hnd⟩) ht
    have hop : op = [] := by
      cases op with
      | nil => rfl
      | cons x r =>
        exfalso
        have hx : x ∈ x :: r := List.mem_cons_self
        obtain ⟨b1, b2⟩ := (h.opn x).1 hx
        obtain ⟨i, hi, e⟩ := h.has x b1
        obtain ⟨j, hij, hj, e1, e2⟩ := U.end_at (show i < l.length by omega)
        have hle := h.cur x hx k (Nat.le_refl _) hk
        rcases Nat.lt_or_ge j k with hlt | hge
        · have := h.com j hlt e2
          rw [e1, e] at this
          exact b2 this
        · have h1 := U.up k j hge hj
          rw [e1, e] at h1
          exact ht (by rw [show (opAt l k).1 = x by omega]; exact hx)
    have hn : nowK s k (opAt l k).1 = ⟨k, -1, [], []⟩ := by unfold nowK; rw [hb, if_neg (by decide)]
    rw [hn]
    refine ⟨hnd, fun u hu => (hK.comm u hu).2.2.2.2.1, fun item => ?_, ?_, fun u hu => by rw [hop] at hu; cases hu⟩
    · rw [← h.last item, hop, List.append_nil]
      simp [inB]
    · rw [← h.seen, hop, List.append_nil, List.append_nil]
/-- By number of those that are done, if their numbers rise: the last one. -/
theorem who_rise {of : Int → Dl} {ds : List Int} {time t : Int} (h1 : 1 ≤ t) (hp : ds.Pairwise (· < ·)) (hpos : ∀ u ∈ ds, 1 ≤ u) (hlt : ∀ u ∈ ds, u < t) (he : ∀ u ∈ ds, (of u).ended < time) (item : Int) : whoK ds of item time t = lastK of ds item := by
  rw [who_top h1 he]
  refine top_uniq (fun u hu => hpos u hu.1) (topK_top _ _ _ _) ?_
  have h2 := lastK_top of item hp hpos
  refine ⟨?_, fun u hu => h2.2 u ⟨hu.1, hu.2.2⟩⟩
  rcases h2.1 with e | e
  · exact Or.inl e
  · exact Or.inr ⟨e.1, hlt _ e.1, e.2⟩
theorem hit_past (kind : Int) {s : Kst} {t : Int} {r : Dl} (h : ∀ u ∈ s.done, (s.of u).ended < r.began) : hitK kind s t r = false := by
  cases hx : hitK kind s t r with
  | false => rfl
  | true =>
    exfalso
    unfold hitK at hx
    obtain ⟨i, hi, h1⟩ := List.any_eq_true.1 hx
    obtain ⟨item, _, h2⟩ := List.any_eq_true.1 h1
    rw [Bool.and_eq_true] at h2
    have := h i hi
    have := of_decide_eq_true h2.1
    omega
theorem okV_pass {s : Kst} {t : Int} {r : Dl} (h : hitK 1 s t r = false) : okV s t r = true := by unfold okV; rw [h]; rfl
theorem okS_pass {s : Kst} {t : Int} {r : Dl} (h : hitK 2 s t r = false) : okS s t r = true := by unfold okS; rw [h]; rfl
theorem okN_pass {s : Kst} {t : Int} {r : Dl} (h : pastK s t r = false) : okN s t r = true := by unfold okN; rw [h]; rfl
/-- A step that everybody makes. -/
def stepE (s : Kst) (k : Nat) (o : Op3) (f : Int) : List Int × (Int → Dl) × (Int → Bool) :=
  if o.2.1 = 1 then (s.done, setF s.of o.1 { nowK s k o.1 with seen := (nowK s k o.1).seen ++ [(o.1, o.2.2, f)] }, setF s.beg o.1 true)
  else if o.2.1 = 2 then (s.done, setF s.of o.1 { nowK s k o.1 with wrote := (nowK s k o.1).wrote ++ [o.2.2] }, setF s.beg o.1 true)
  else if o.2.1 = 3 then (s.done ++ [o.1], setF s.of o.1 { nowK s k o.1 with ended := (k : Int) }, setF s.beg o.1 true)
  else (s.done, setF s.of o.1 (nowK s k o.1), setF s.beg o.1 true)
theorem step_E {kind : Int} {okF : Kst → Int → Dl → Bool} {s : Kst} {k : Nat} {o : Op3} {f : Int} (hf : fromK kind s k (nowK s k o.1) o.1 o.2.2 = f) (hok : okF s o.1 (nowK s k o.1) = true) :
    ((stepK kind okF s k o).done, (stepK kind okF s k o).of, (stepK kind okF s k o).beg) = stepE s k o f := by
  obtain ⟨t, a, i⟩ := o
  simp only at hf hok
  unfold stepK stepE
  simp only
  split
  · unfold readStep; rw [hf]
  · split
    · rfl
    · split
      · first | rfl | (rw [if_pos hok]; rfl)
      · rfl
theorem seenL_congr {of of' : Int → Dl} : ∀ {ds : List Int}, (∀ t ∈ ds, of t = of' t) → seenL of ds = seenL of' ds := by
  intro ds
  induction ds with
  | nil => intro _; rfl
  | cons x r ih =>
    intro h
    unfold seenL at ih ⊢
    rw [List.flatMap_cons, List.flatMap_cons, h x List.mem_cons_self, ih fun t ht => h t (List.mem_cons_of_mem _ ht)]
section
variable {l : List Op3} {k : Nat} {s s' : Kst} {op : List Int}
theorem Lvl.next (h : Lvl l k s op) (U : UpRun l) (hK : KOk l k s) (hk : k < l.length) (he : ((s'.done, s'.of, s'.beg) : List Int × (Int → Dl) × (Int → Bool)) = stepE s k (opAt l k) (lastW l k (opAt l k).2.2).1.1) : ∃ op', Lvl l (k + 1) s' op' := by
  have hN := h.now U hK hk
  have h4 := U.not4 hk
  have hmem : opAt l k ∈ l := by rw [opAt_at hk]; exact List.getElem_mem _
  have hop := ((chk_iff l).1 U.chk).2.1 _ hmem
  have hlater : ∀ i, k + 1 ≤ i → i < l.length → (opAt l k).1 ≤ (opAt l i).1 := fun i h1 h2 => U.up k i (by omega) h2
  obtain ⟨r, hr⟩ : ∃ r, nowK s k (opAt l k).1 = r := ⟨_, rfl⟩
  obtain ⟨⟨t, a, x⟩, ho⟩ : ∃ o, opAt l k = o := ⟨_, rfl⟩
  have hw1 : a ≠ 2 → ∀ item, (lastW l (k + 1) item).1.1 = (lastW l k item).1.1 := fun hne item => by rw [lastW_pass (by rw [ho]; exact fun e => hne e.1)]
  have hw2 : a = 2 → ∀ item, (lastW l (k + 1) item).1.1 = if x = item then t else (lastW l k item).1.1 := fun he item => by
    by_cases e : x = item
    · rw [if_pos e, lastW_hit (by rw [ho]; exact he) (by rw [ho]; exact e)]
      show (opAt l k).1 = t
      rw [ho]
    · rw [if_neg e, lastW_pass (by rw [ho]; exact fun e2 => e e2.2)]
  have hr1 : a = 1 → readsS l (k + 1) = readsS l k ++ [(t, x, (lastW l k x).1.1)] := fun he => by rw [readsS, ho]; simp only; rw [if_pos he]
  have hr2 : a ≠ 1 → readsS l (k + 1) = readsS l k := fun he => by rw [readsS, ho]; simp only; rw [if_neg he]
  rw [hr, ho] at hN
  rw [ho] at he h4 hop hlater
  simp only at hN h4 hlater
  unfold stepE at he
  simp only at he
  rw [show nowK s k t = r by rw [← hr, ho]] at he
  have hoth : ∀ (r' : Dl) u, u ∈ s.done → setF s.of t r' u = s.of u := fun r' u hu => setF_other _ _ fun e => hN.new (e ▸ hu)
  have hbeg : ∀ (P : Int → Prop), P t → (∀ u, s.beg u = true → P u) → ∀ u, setF s.beg t true u = true → P u := fun P h1 h2 u hu => by
    by_cases e : u = t
    · rw [e]; exact h1
    · rw [setF_other _ _ e] at hu; exact h2 u hu
  have hhas : ∀ u, setF s.beg t true u = true → ∃ i, i < k + 1 ∧ (opAt l i).1 = u := hbeg _ ⟨k, by omega, by rw [ho]⟩ fun u hu => by
    obtain ⟨i, h1, h2⟩ := h.has u hu
    exact ⟨i, by omega, h2⟩
  have hopn : ∀ u, u ∈ [t] ↔ (setF s.beg t true u = true ∧ u ∉ s.done) := fun u => by
    constructor
    · intro hu
      rw [List.mem_singleton.1 hu, setF_same]
      exact ⟨rfl, hN.new⟩
    · rintro ⟨h1, h2⟩
      by_cases e : u = t
      · exact List.mem_singleton.2 e
      · rw [setF_other _ _ e] at h1
        have := hN.only u ((h.opn u).2 ⟨h1, h2⟩)
        exact absurd this e
  /- while it is open -/
  have stay : ∀ r' : Dl, r'.began = r.began → a ≠ 3 → (∀ item, (if inB r'.wrote item = true then t else lastK s.of s.done item) = (lastW l (k + 1) item).1.1) → seenL s.of s.done ++ r'.seen = readsS l (k + 1) →
      s'.done = s.done → s'.of = setF s.of t r' → s'.beg = setF s.beg t true → ∃ op', Lvl l (k + 1) s' op' := fun r' hb h3 hl hs e1 e2 e3 => by
    refine ⟨[t], Nat.le_refl _, fun u => by rw [e1, e3]; exact hopn u, by rw [e1]; exact h.rise, fun u hu i h1 h2 => ?_, fun u hu i h1 h2 => ?_, fun u hu y hy => ?_, fun u hu => by rw [e3] at hu; exact hhas u hu, fun j hj hj3 => ?_, fun item => ?_, ?_⟩
    · rw [e1] at hu; exact h.top u hu i (by omega) h2
    · rw [List.mem_singleton.1 hu]; exact hlater i h1 h2
    · rw [e1] at hy
      rw [List.mem_singleton.1 hu, e2, setF_same, hoth _ _ hy, hb]
      exact hN.past y hy
    · rw [e1]
      rcases Nat.lt_or_ge j k with e | e
      · exact h.com j e hj3
      · rw [show j = k by omega, ho] at hj3; exact absurd hj3 h3
    · rw [e1, e2, lastK_snoc, setF_same, lastK_set hN.new]
      exact hl item
    · rw [e1, e2, seenL_snoc, setF_same, ← hs]
      congr 1
      exact seenL_congr fun u hu => hoth _ _ hu
  by_cases a1 : a = 1
  · rw [if_pos a1] at he
    injection he with e1 he
    injection he with e2 e3
    refine stay { r with seen := r.seen ++ [(t, x, (lastW l k x).1.1)] } rfl (by omega) (fun item => ?_) ?_ e1 e2 e3
    · rw [hw1 (by omega), hN.last item]
    · rw [hr1 a1, ← hN.seen, List.append_assoc]
  · rw [if_neg a1] at he
    by_cases a2 : a = 2
    · rw [if_pos a2] at he
      injection he with e1 he
      injection he with e2 e3
      refine stay { r with wrote := r.wrote ++ [x] } rfl (by omega) (fun item => ?_) ?_ e1 e2 e3
      · rw [hw2 a2, hN.last item]
        show (if inB (r.wrote ++ [x]) item = true then t else _) = _
        by_cases e : x = item
        · rw [if_pos e, if_pos (by rw [e]; simp [inB])]
        · have : inB (r.wrote ++ [x]) item = inB r.wrote item := by
            unfold inB
            simp
            intro e2
            exact absurd e2.symm e
          rw [if_neg e, this]
      · rw [hr2 (by omega)]; exact hN.seen
    · rw [if_neg a2] at he
      have a3 : a = 3 := by
        have := isOp_kinds hop
        simp only at this
        omega
      rw [if_pos a3] at he
      injection he with e1 he
      injection he with e2 e3
      refine ⟨[], Nat.zero_le _, fun u => ?_, ?_, fun u hu i h1 h2 => ?_, (fun u hu => by cases hu), (fun u hu => by cases hu), fun u hu => by rw [e3] at hu; exact hhas u hu, fun j hj hj3 => ?_, fun item => ?_, ?_⟩
      · rw [e1, e3]
        constructor
        · intro hu; cases hu
        · rintro ⟨h1, h2⟩
          have h3 : u ∉ s.done := fun hm => h2 (List.mem_append_left _ hm)
          have := (hopn u).2 ⟨h1, h3⟩
          exact absurd (List.mem_append_right _ this) h2
      · rw [e1]
        refine List.pairwise_append.2 ⟨h.rise, List.pairwise_singleton _ _, fun u hu y hy => ?_⟩
        rw [List.mem_singleton.1 hy]
        have := h.top u hu k (Nat.le_refl _) hk
        rw [ho] at this
        exact this
      · rw [e1] at hu
        rcases List.mem_append.1 hu with hu | hu
        · exact h.top u hu i (by omega) h2
        · rw [List.mem_singleton.1 hu]
          have h5 := hlater i h1 h2
          rcases Int.lt_or_eq_of_le h5 with h6 | h6
          · exact h6
          · have := calmU_at U.chk (show k < i by omega) h2 (by rw [ho]; exact h6)
            rw [ho, a3] at this
            cases this
      · rw [e1]
        rcases Nat.lt_or_ge j k with e | e
        · exact List.mem_append_left _ (h.com j e hj3)
        · rw [show j = k by omega, ho]; exact List.mem_append_right _ (List.mem_singleton.2 rfl)
      · rw [e1, e2, List.append_nil, lastK_snoc, setF_same, lastK_set hN.new, hw1 (by omega), hN.last item]
      · rw [e1, e2, List.append_nil, seenL_snoc, setF_same, hr2 (by omega), ← hN.seen]
        congr 1
        exact seenL_congr fun u hu => hoth _ _ hu
end
/-- Who looked: no greater number than what is still to come. -/
def LookLow (l : List Op3) (k : Nat) (s : Kst) : Prop := ∀ e ∈ s.looks, ∀ i, k ≤ i → i < l.length → e.1 ≤ (opAt l i).1
theorem runs_agree {l : List Op3} (U : UpRun l) : ∀ k, k ≤ l.length → (∃ op, Lvl l k (runK 1 okV l k) op) ∧
    ((runK 2 okS l k).done = (runK 1 okV l k).done ∧ (runK 2 okS l k).of = (runK 1 okV l k).of ∧ (runK 2 okS l k).beg = (runK 1 okV l k).beg) ∧
    ((runK 4 okN l k).done = (runK 1 okV l k).done ∧ (runK 4 okN l k).of = (runK 1 okV l k).of ∧ (runK 4 okN l k).beg = (runK 1 okV l k).beg) ∧ LookLow l k (runK 4 okN l k) := by
  intro k
  induction k with
  | zero => exact fun _ => ⟨⟨[], lvl0 l⟩, ⟨rfl, rfl, rfl⟩, ⟨rfl, rfl, rfl⟩, fun e he => by cases he⟩
  | succ k ih =>
    intro hk1
    have hk : k < l.length := by omega
    obtain ⟨⟨op, h⟩, ⟨d2, o2, b2⟩, ⟨d4, o4, b4⟩, hlo⟩ := ih (by omega)
    have hK := run_kOk 1 okV U.chk k (by omega)
    have hN := h.now U hK hk
    have hd1 : 1 ≤ (opAt l k).1 := (isOp_range (((chk_iff l).1 U.chk).2.1 _ (by rw [opAt_at hk]; exact List.getElem_mem _))).1
    have n2 : nowK (runK 2 okS l k) k (opAt l k).1 = nowK (runK 1 okV l k) k (opAt l k).1 := by unfold nowK; rw [o2, b2]
    have n4 : nowK (runK 4 okN l k) k (opAt l k).1 = nowK (runK 1 okV l k) k (opAt l k).1 := by unfold nowK; rw [o4, b4]
    have hended : ∀ u ∈ (runK 1 okV l k).done, ((runK 1 okV l k).of u).ended < (k : Int) := fun u hu => (hK.comm u hu).2.2.2.2.1
    have f1 : fromK 1 (runK 1 okV l k) k (nowK (runK 1 okV l k) k (opAt l k).1) (opAt l k).1 (opAt l k).2.2 = (lastW l k (opAt l k).2.2).1.1 := by
      unfold fromK
      rw [if_pos rfl, who_last hended, hN.last]
    have f2 : fromK 2 (runK 2 okS l k) k (nowK (runK 2 okS l k) k (opAt l k).1) (opAt l k).1 (opAt l k).2.2 = (lastW l k (opAt l k).2.2).1.1 := by
      unfold fromK
      rw [if_neg (show ¬ (2 : Int) = 1 by decide), if_neg (show ¬ (2 : Int) = 4 by decide), n2, d2, o2, who_last hN.past, hN.last]
    have f4 : fromK 4 (runK 4 okN l k) k (nowK (runK 4 okN l k) k (opAt l k).1) (opAt l k).1 (opAt l k).2.2 = (lastW l k (opAt l k).2.2).1.1 := by
      unfold fromK
      rw [if_neg (show ¬ (4 : Int) = 1 by decide), if_pos rfl, n4, d4, o4, who_rise hd1 h.rise (fun u hu => (hK.comm u hu).2.1) (fun u hu => h.top u hu k (Nat.le_refl _) hk) hended, hN.last]
    have k1 : okV (runK 1 okV l k) (opAt l k).1 (nowK (runK 1 okV l k) k (opAt l k).1) = true := okV_pass (hit_past 1 hN.past)
    have k2 : okS (runK 2 okS l k) (opAt l k).1 (nowK (runK 2 okS l k) k (opAt l k).1) = true := okS_pass (hit_past 2 (by rw [n2, d2, o2]; exact hN.past))
    have k4 : okN (runK 4 okN l k) (opAt l k).1 (nowK (runK 4 okN l k) k (opAt l k).1) = true := okN_pass <| by
      cases hx : pastK (runK 4 okN l k) (opAt l k).1 (nowK (runK 4 okN l k) k (opAt l k).1) with
      | false => rfl
      | true =>
        exfalso
        unfold pastK at hx
        obtain ⟨e, he, h2⟩ := List.any_eq_true.1 hx
        rw [Bool.and_eq_true, Bool.and_eq_true] at h2
        have h3 := of_decide_eq_true h2.2.1
        have := hlo e he k (Nat.le_refl _) hk
        omega
    have s1 := step_E (okF := okV) (o := opAt l k) f1 k1
    have s2 := step_E (okF := okS) (o := opAt l k) f2 k2
    have s4 := step_E (okF := okN) (o := opAt l k) f4 k4
    have e2 : stepE (runK 2 okS l k) k (opAt l k) (lastW l k (opAt l k).2.2).1.1 = stepE (runK 1 okV l k) k (opAt l k) (lastW l k (opAt l k).2.2).1.1 := by unfold stepE; rw [n2, d2, o2, b2]
    have e4 : stepE (runK 4 okN l k) k (opAt l k) (lastW l k (opAt l k).2.2).1.1 = stepE (runK 1 okV l k) k (opAt l k) (lastW l k (opAt l k).2.2).1.1 := by unfold stepE; rw [n4, d4, o4, b4]
    rw [e2, ← s1] at s2
    rw [e4, ← s1] at s4
    injection s2 with x1 x2
    injection x2 with x2 x3
    injection s4 with y1 y2
    injection y2 with y2 y3
    refine ⟨h.next (s' := runK 1 okV l (k + 1)) U hK hk s1, ⟨x1, x2, x3⟩, ⟨y1, y2, y3⟩, fun e he i h1 h2 => ?_⟩
    have key : e ∈ (runK 4 okN l k).looks ∨ e.1 = (opAt l k).1 := by
      have he' : e ∈ (stepK 4 okN (runK 4 okN l k) k (opAt l k)).looks := he
      unfold stepK at he'
      split at he'
      · unfold readStep at he'
        simp only at he'
        split at he'
        · rcases List.mem_append.1 he' with hm | hm
          · exact .inl hm
          · rw [List.mem_singleton.1 hm]; exact .inr rfl
        · exact .inl he'
      · split at he'
        · exact .inl he'
        · split at he'
          · exact .inl (by first | exact he' | (split at he' <;> exact he'))
          · exact .inl he'
    rcases key with hm | hm
    · exact hlo e hm i (by omega) h2
    · rw [hm]; exact U.up k i (by omega) h2
theorem byNum_up {ds : List Int} (hp : ds.Pairwise (· < ·)) (h6 : ∀ t ∈ ds, 1 ≤ t ∧ t ≤ 6) : byNum ds = ds := by
  refine rise_uniq _ _ ?_ hp fun x => ?_
  · unfold byNum
    exact List.Pairwise.sublist List.filter_sublist (by decide)
  · unfold byNum
    rw [List.mem_filter]
    constructor
    · rintro ⟨_, h⟩; simpa [inB] using h
    · intro h
      refine ⟨?_, by simpa [inB] using h⟩
      obtain ⟨h1, h2⟩ := h6 x h
      simp
      omega
/-- All runs come to the same: all are done, by their numbers, and saw what the history's Reads read. -/
theorem agree_out {l : List Op3} (U : UpRun l) : outU 2 okS false l = outU 1 okV false l ∧ outU 4 okN true l = outU 1 okV false l ∧ (outU 1 okV false l).2 = 0 ∧ (outU 1 okV false l).1.1 = dealsL l ∧ (outU 1 okV false l).1.2.1 = readsS l l.length := by
  obtain ⟨⟨op, h⟩, ⟨d2, o2, _⟩, ⟨d4, o4, _⟩, _⟩ := runs_agree U l.length (Nat.le_refl _)
  have hK := run_kOk 1 okV U.chk l.length (Nat.le_refl _)
  have hop : op = [] := by
    cases op with
    | nil => rfl
    | cons x r =>
      exfalso
      obtain ⟨b1, b2⟩ := (h.opn x).1 List.mem_cons_self
      obtain ⟨i, hi, e⟩ := h.has x b1
      obtain ⟨j, _, hj, e1, e2⟩ := U.end_at hi
      have := h.com j hj e2
      rw [e1, e] at this
      exact b2 this
  have hdone : (runK 1 okV l l.length).done = dealsL l := by
    refine rise_uniq _ _ h.rise (dealsL_rise l) fun x => ?_
    rw [mem_deals, hasB_iff]
    constructor
    · intro hx
      obtain ⟨c1, c2, c3, c4, c5, c6⟩ := hK.comm x hx
      exact ⟨c2, c3, (x, 3, 0), by rw [← c6]; exact opAt_mem (by omega), rfl⟩
    · rintro ⟨_, _, o, ho, rfl⟩
      obtain ⟨i, hi, e⟩ := mem_opAt ho
      obtain ⟨j, _, hj, e1, e2⟩ := U.end_at hi
      have := h.com j hj e2
      rw [e1, e] at this
      exact this
  have hseen := h.seen
  rw [hop, List.append_nil] at hseen
  have h6 : ∀ t ∈ (runK 1 okV l l.length).done, 1 ≤ t ∧ t ≤ 6 := fun t ht => ⟨(hK.comm t ht).2.1, (hK.comm t ht).2.2.1⟩
  rw [outU_ok U.chk, outU_ok U.chk, outU_ok U.chk]
  have e1 : ordN false (runK 1 okV l l.length).done = (runK 1 okV l l.length).done := rfl
  have e2 : ordN false (runK 2 okS l l.length).done = (runK 1 okV l l.length).done := d2
  have e4 : ordN true (runK 4 okN l l.length).done = (runK 1 okV l l.length).done := by unfold ordN; rw [if_pos rfl, d4]; exact byNum_up h.rise h6
  rw [e1, e2, e4, o2, o4]
  exact ⟨rfl, rfl, rfl, hdone, hseen⟩
end Go.Proofs.YtccjognnehoodahGreat

namespace Go.Proofs.YtccjognnehoodahGreat

/-- Free deals, rising, between those of an order. -/
def weaveL : List Int → List Int → List Int
  | [], fr => fr
  | b :: bs, fr => fr.takeWhile (fun x => decide (x < b)) ++ b :: weaveL bs (fr.dropWhile fun x => decide (x < b))
theorem weave_nil (b : List Int) : weaveL b [] = b := by
  induction b with
  | nil => rfl
  | cons a r ih => simp [weaveL, ih]
theorem weave_take {b f : Int} {bs fr : List Int} (h : f < b) : weaveL (b :: bs) (f :: fr) = f :: weaveL (b :: bs) fr := by simp [weaveL, h]
theorem weave_pass {b f : Int} {bs fr : List Int} (h : ¬ f < b) : weaveL (b :: bs) (f :: fr) = b :: weaveL bs (f :: fr) := by simp [weaveL, h]
theorem weave_len (b : List Int) : ∀ fr, (weaveL b fr).length = b.length + fr.length := by
  induction b with
  | nil => intro fr; simp [weaveL]
  | cons a r ih =>
    intro fr
    have h1 := List.takeWhile_append_dropWhile (p := fun x => decide (x < a)) (l := fr)
    have h2 := congrArg List.length h1
    rw [List.length_append] at h2
    simp only [weaveL, List.length_append, List.length_cons, ih]
    omega
/-- The order, from its first on. -/
def ordF (l : List Edge2) : Nat → Set7 → Option (List Int)
  | 0, _ => some []
  | n + 1, s => if anyS s = true then (if nextN l s = 0 then none else (ordF l n (setS s (nextN l s) false)).map ((nextN l s : Int) :: ·)) else some []
theorem orderGo_F (l : List Edge2) : ∀ (n : Nat) (s : Set7) (out : List Int), orderGo l n s out = (ordF l n s).map (out ++ ·) := by
  intro n
  induction n with
  | zero => intro s out; simp [orderGo, ordF]
  | succ n ih =>
    intro s out
    simp only [orderGo, ordF]
    split
    · split
      · rfl
      · rw [ih, Option.map_map]
        congr 1
        funext x
        simp
    · simp
theorem ordF_end {l : List Edge2} {s : Set7} (h : anyS s = false) : ∀ n, ordF l n s = some [] := by
  intro n
  cases n with
  | zero => rfl
  | succ n => simp [ordF, h]
theorem any_true {s : Set7} {t : Nat} (ht : t < 7) (h : s t = true) : anyS s = true := List.any_eq_true.2 ⟨t, List.mem_range.2 ht, h⟩
theorem any_false {s : Set7} (h : anyS s = false) {t : Nat} (ht : t < 7) : s t = false := by
  have := List.any_eq_false.1 h t (List.mem_range.2 ht)
  simpa using this
theorem cnt_zero {s : Set7} (h : cntS s = 0) : anyS s = false := by
  cases h2 : anyS s with
  | false => rfl
  | true => have := cnt_any h2; omega
theorem ordF_on {l : List Edge2} {n : Nat} {s : Set7} (hn : cntS s ≤ n) (h : anyS s = true) (h0 : nextN l s ≠ 0) : ordF l n s = (ordF l (n - 1) (setS s (nextN l s) false)).map ((nextN l s : Int) :: ·) := by
  have := cnt_any h
  match n, hn with
  | 0, hn => omega
  | n + 1, _ => simp [ordF, h, h0]
theorem ordF_stop {l : List Edge2} {n : Nat} {s : Set7} (hn : cntS s ≤ n) (h : anyS s = true) (h0 : nextN l s = 0) : ordF l n s = none := by
  have := cnt_any h
  match n, hn with
  | 0, hn => omega
  | n + 1, _ => simp [ordF, h, h0]
theorem next_free {l : List Edge2} {s : Set7} (h0 : nextN l s ≠ 0) : 1 ≤ nextN l s ∧ nextN l s ≤ 6 ∧ freeB l s (nextN l s) = true ∧ ∀ j, 1 ≤ j → j < nextN l s → freeB l s j = false := by
  rcases next_cases l s with ⟨h, _⟩ | h
  · exact absurd h h0
  · exact h
theorem next_nobody {l : List Edge2} {s : Set7} (h0 : nextN l s = 0) : ∀ j, 1 ≤ j → j < 7 → freeB l s j = false := by
  rcases next_cases l s with ⟨_, h⟩ | ⟨h, _⟩
  · exact h
  · omega
theorem cnt_next {l : List Edge2} {s : Set7} (h0 : nextN l s ≠ 0) : cntS (setS s (nextN l s) false) + 1 = cntS s := by
  obtain ⟨_, h6, hf, _⟩ := next_free h0
  exact cnt_set (by omega) (free_parts hf).1
theorem ordF_fuel (l : List Edge2) : ∀ (n m : Nat) (s : Set7), cntS s ≤ n → cntS s ≤ m → ordF l n s = ordF l m s := by
  intro n
  induction n with
  | zero =>
    intro m s hn _
    rw [ordF_end (cnt_zero (by omega)), ordF_end (cnt_zero (by omega))]
  | succ n ih =>
    intro m s hn hm
    cases h : anyS s with
    | false => rw [ordF_end h, ordF_end h]
    | true =>
      by_cases h0 : nextN l s = 0
      · rw [ordF_stop hn h h0, ordF_stop hm h h0]
      · have hc := cnt_next h0
        rw [ordF_on hn h h0, ordF_on hm h h0, Nat.add_sub_cancel, ih (m - 1) _ (by omega) (by omega)]
theorem ordF_head {l : List Edge2} {n : Nat} {s : Set7} {o : List Int} (hn : cntS s ≤ n) (h : ordF l n s = some o) : (o = [] ∧ anyS s = false) ∨ ∃ r, o = (nextN l s : Int) :: r ∧ nextN l s ≠ 0 := by
  cases ha : anyS s with
  | false => rw [ordF_end ha] at h; exact .inl ⟨(Option.some.inj h).symm, rfl⟩
  | true =>
    by_cases h0 : nextN l s = 0
    · rw [ordF_stop hn ha h0] at h; cases h
    · rw [ordF_on hn ha h0] at h
      obtain ⟨r, _, e⟩ := Option.map_eq_some_iff.1 h
      exact .inr ⟨r, e.symm, h0⟩
theorem ordF_mem (l : List Edge2) : ∀ (n : Nat) (s : Set7) (o : List Int), cntS s ≤ n → (∀ k, s k = true → 1 ≤ k ∧ k ≤ 6) → ordF l n s = some o → ∀ x, x ∈ o ↔ ∃ t : Nat, x = (t : Int) ∧ s t = true := by
  intro n
  induction n with
  | zero =>
    intro s o hn hs h x
    have ha := cnt_zero (s := s) (by omega)
    rw [ordF_end ha] at h
    rw [← Option.some.inj h]
    refine ⟨fun hx => (by cases hx), ?_⟩
    rintro ⟨t, _, ht⟩
    rw [any_false ha (by have := hs t ht; omega)] at ht
    cases ht
  | succ n ih =>
    intro s o hn hs h x
    cases ha : anyS s with
    | false =>
      rw [ordF_end ha] at h
      rw [← Option.some.inj h]
      refine ⟨fun hx => (by cases hx), ?_⟩
      rintro ⟨t, _, ht⟩
      rw [any_false ha (by have := hs t ht; omega)] at ht
      cases ht
    | true =>
      by_cases h0 : nextN l s = 0
      · rw [ordF_stop hn ha h0] at h; cases h
      · rw [ordF_on hn ha h0] at h
        obtain ⟨r, hr, e⟩ := Option.map_eq_some_iff.1 h
        obtain ⟨_, h6, hf, _⟩ := next_free h0
        have hc := cnt_next h0
        have := ih _ r (by omega) (fun k hk => by
          by_cases e2 : k = nextN l s
          · rw [e2, setS_same] at hk; cases hk
          · rw [setS_other s false e2] at hk; exact hs k hk) hr x
        rw [← e, List.mem_cons, this]
        constructor
        · rintro (rfl | ⟨t, rfl, ht⟩)
          · exact ⟨_, rfl, (free_parts hf).1⟩
          · refine ⟨t, rfl, ?_⟩
            by_cases e2 : t = nextN l s
            · rw [e2, setS_same] at ht; cases ht
            · rw [setS_other s false e2] at ht; exact ht
        · rintro ⟨t, rfl, ht⟩
          by_cases e2 : t = nextN l s
          · exact .inl (by rw [e2])
          · exact .inr ⟨t, rfl, by rw [setS_other s false e2]; exact ht⟩
/-- Of those that wait, those that edges name. -/
def onlyS (l : List Edge2) (s : Set7) : Set7 := fun t => s t && namedS l t
theorem cnt_only (l : List Edge2) (s : Set7) : cntS (onlyS l s) ≤ cntS s := by
  have h : ∀ t, (onlyS l s t).toNat ≤ (s t).toNat := fun t => by
    unfold onlyS
    cases s t <;> cases namedS l t <;> simp
  unfold cntS
  have := h 0; have := h 1; have := h 2; have := h 3; have := h 4; have := h 5; have := h 6
  omega
theorem free_only {l : List Edge2} (hr : Right l) (s : Set7) (t : Nat) (ht : namedS l t = true) : freeB l s t = freeB l (onlyS l s) t := by
  unfold freeB
  have e1 : onlyS l s t = s t := by unfold onlyS; rw [ht, Bool.and_true]
  rw [e1]
  congr 2
  refine any_same fun e he => ?_
  obtain ⟨x, y, rfl, hx, hy⟩ := hr.nat he
  have e2 : onlyS l s x = s x := by unfold onlyS; rw [named_from he, Bool.and_true]
  unfold holdB
  simp only [Int.toNat_natCast, e2]
theorem free_other {l : List Edge2} (hr : Right l) (s : Set7) (t : Nat) (ht : namedS l t = false) : freeB l s t = s t := by
  unfold freeB
  have e1 : l.any (holdB s t) = false := by
    refine List.any_eq_false.2 fun e he => ?_
    obtain ⟨x, y, rfl, hx, hy⟩ := hr.nat he
    have : y ≠ t := fun e => by rw [← e, named_to he] at ht; cases ht
    simp [holdB]
    intro h; omega
  rw [e1]; simp
theorem not_free_other {l : List Edge2} (s : Set7) (t : Nat) (ht : namedS l t = false) : freeB l (onlyS l s) t = false := by
  unfold freeB onlyS
  rw [ht]; simp
theorem weave_ord {l : List Edge2} (hr : Right l) : ∀ (n : Nat) (s : Set7) (fr : List Int) (m : Nat), cntS s ≤ n → (∀ k, s k = true → 1 ≤ k ∧ k ≤ 6) → fr.Pairwise (· < ·) →
    (∀ x, x ∈ fr ↔ ∃ t : Nat, x = (t : Int) ∧ s t = true ∧ namedS l t = false) → cntS (onlyS l s) ≤ m → ordF l n s = (ordF l m (onlyS l s)).map fun b => weaveL b fr := by
  intro n
  induction n with
  | zero =>
    intro s fr m hn hs hf hm hc
    have ha := cnt_zero (s := s) (by omega)
    have hfr : fr = [] := List.eq_nil_iff_forall_not_mem.2 fun x hx => by
      obtain ⟨t, _, ht, _⟩ := (hm x).1 hx
      rw [any_false ha (by have := hs t ht; omega)] at ht
      cases ht
    have hao : anyS (onlyS l s) = false := cnt_zero (by have := cnt_only l s; omega)
    rw [ordF_end ha, ordF_end hao, hfr]; rfl
  | succ n ih =>
    intro s fr m hn hs hf hm hc
    cases ha : anyS s with
    | false =>
      have hfr : fr = [] := List.eq_nil_iff_forall_not_mem.2 fun x hx => by
        obtain ⟨t, _, ht, _⟩ := (hm x).1 hx
        rw [any_false ha (by have := hs t ht; omega)] at ht
        cases ht
      have hao : anyS (onlyS l s) = false := cnt_zero (by have := cnt_only l s; have := any_cnt ha; omega)
      rw [ordF_end ha, ordF_end hao, hfr]; rfl
    | true =>
      have hso : ∀ k, onlyS l s k = true → 1 ≤ k ∧ k ≤ 6 := fun k hk => hs k (by unfold onlyS at hk; simp at hk; exact hk.1)
      cases fr with
      | nil =>
        have e : onlyS l s = s := by
          funext t
          unfold onlyS
          cases h1 : s t with
          | false => rfl
          | true =>
            cases h2 : namedS l t with
            | true => rfl
            | false => exact absurd ((hm t).2 ⟨t, rfl, h1, h2⟩) (by simp)
        rw [e] at hc ⊢
        rw [ordF_fuel l (n + 1) m s hn hc]
        have : (fun b => weaveL b []) = (id : List Int → List Int) := funext weave_nil
        rw [this, Option.map_id]; rfl
      | cons f fr =>
        obtain ⟨t, rfl, hst, hnt⟩ := (hm f).1 (List.mem_cons_self ..)
        have ht := hs t hst
        obtain ⟨f1, f2⟩ := List.pairwise_cons.1 hf
        have hleast : ∀ j : Nat, j < t → s j = true → namedS l j = true := fun j hj h1 => by
          cases h2 : namedS l j with
          | true => rfl
          | false =>
            rcases List.mem_cons.1 ((hm j).2 ⟨j, rfl, h1, h2⟩) with h3 | h3
            · omega
            · have := f1 _ h3; omega
        by_cases hb : nextN l (onlyS l s) = 0 ∨ t < nextN l (onlyS l s)
        · have hnx : nextN l s = t := by
            refine next_hit ht.1 ht.2 (by rw [free_other hr s t hnt]; exact hst) fun j hj1 hj => ?_
            cases h2 : namedS l j with
            | false =>
              rw [free_other hr s j h2]
              cases h1 : s j with
              | false => rfl
              | true => rw [hleast j hj h1] at h2; cases h2
            | true =>
              rw [free_only hr s j h2]
              rcases hb with hb | hb
              · exact next_nobody hb j hj1 (by omega)
              · exact (next_free (by omega)).2.2.2 j hj1 (by omega)
          have h0 : nextN l s ≠ 0 := by omega
          have hcn := cnt_next h0
          have eo : onlyS l (setS s t false) = onlyS l s := by
            funext k
            unfold onlyS
            by_cases e : k = t
            · rw [e, hnt]; simp
            · rw [setS_other s false e]
          have h1 := ih (setS s t false) fr m (by rw [hnx] at hcn; omega) (fun k hk => by
            by_cases e : k = t
            · rw [e, setS_same] at hk; cases hk
            · rw [setS_other s false e] at hk; exact hs k hk) f2 (fun x => by
              constructor
              · intro hx
                obtain ⟨k, rfl, hk1, hk2⟩ := (hm x).1 (List.mem_cons_of_mem _ hx)
                have := f1 _ hx
                exact ⟨k, rfl, by rw [setS_other s false (by omega)]; exact hk1, hk2⟩
              · rintro ⟨k, rfl, hk1, hk2⟩
                by_cases e : k = t
                · rw [e, setS_same] at hk1; cases hk1
                · rw [setS_other s false e] at hk1
                  rcases List.mem_cons.1 ((hm k).2 ⟨k, rfl, hk1, hk2⟩) with h3 | h3
                  · omega
                  · exact h3) (by rw [eo]; exact hc)
          rw [ordF_on hn ha h0, hnx, Nat.add_sub_cancel, h1, eo, Option.map_map]
          cases ho : ordF l m (onlyS l s) with
          | none => rfl
          | some o =>
            simp only [Option.map_some, Function.comp]
            congr 1
            rcases ordF_head hc ho with ⟨rfl, _⟩ | ⟨r, rfl, h3⟩
            · rfl
            · rcases hb with hb | hb
              · exact absurd hb h3
              · rw [weave_take (by omega)]
        · have hb0 : nextN l (onlyS l s) ≠ 0 := fun h => hb (.inl h)
          obtain ⟨b1, b6, bf, bl⟩ := next_free hb0
          have bn : namedS l (nextN l (onlyS l s)) = true := by
            cases h2 : namedS l (nextN l (onlyS l s)) with
            | true => rfl
            | false => rw [not_free_other s _ h2] at bf; cases bf
          have hbt : nextN l (onlyS l s) ≠ t := fun e => by rw [e, hnt] at bn; cases bn
          have hlt : nextN l (onlyS l s) < t := by
            rcases Nat.lt_trichotomy t (nextN l (onlyS l s)) with h | h | h
            · exact absurd (Or.inr h) hb
            · exact absurd h.symm hbt
            · exact h
          have hnx : nextN l s = nextN l (onlyS l s) := by
            refine next_hit b1 b6 (by rw [free_only hr s _ bn]; exact bf) fun j hj1 hj => ?_
            cases h2 : namedS l j with
            | false =>
              rw [free_other hr s j h2]
              cases h1 : s j with
              | false => rfl
              | true => rw [hleast j (by omega) h1] at h2; cases h2
            | true => rw [free_only hr s j h2]; exact bl j hj1 hj
          obtain ⟨b, hbe⟩ : ∃ b, nextN l (onlyS l s) = b := ⟨_, rfl⟩
          rw [hbe] at hnx hlt bn bf b1 b6 hbt
          have h0 : nextN l s ≠ 0 := by omega
          have hcn := cnt_next h0
          have hco := cnt_next hb0
          have hao : anyS (onlyS l s) = true := any_true (by omega) (free_parts bf).1
          have eo : onlyS l (setS s b false) = setS (onlyS l s) b false := by
            funext k
            unfold onlyS setS
            by_cases e : k = b
            · simp [e]
            · simp [e]
          have h1 := ih (setS s b false) (t :: fr) (m - 1) (by rw [hnx] at hcn; omega) (fun k hk => by
            by_cases e : k = b
            · rw [e, setS_same] at hk; cases hk
            · rw [setS_other s false e] at hk; exact hs k hk) hf (fun x => by
              rw [hm x]
              constructor
              · rintro ⟨k, rfl, hk1, hk2⟩
                have : k ≠ b := fun e => by rw [e, bn] at hk2; cases hk2
                exact ⟨k, rfl, by rw [setS_other s false this]; exact hk1, hk2⟩
              · rintro ⟨k, rfl, hk1, hk2⟩
                have : k ≠ b := fun e => by rw [e, bn] at hk2; cases hk2
                rw [setS_other s false this] at hk1
                exact ⟨k, rfl, hk1, hk2⟩) (by rw [eo]; rw [hbe] at hco; omega)
          rw [ordF_on hn ha h0, hnx, Nat.add_sub_cancel, h1, eo, ordF_on hc hao hb0, hbe, Option.map_map, Option.map_map]
          congr 1
          funext o
          simp only [Function.comp]
          rw [weave_pass (by omega)]
/-- The order of all of a list, and that of what edges name, with the others woven in. -/
def sortD (d : List Int) (l : List Edge2) : Option (List Int) := orderGo l 7 (leftS d []) []
theorem sortD_weave {d : List Int} {l : List Edge2} (hr : Right l) (hd : d.Pairwise (· < ·)) (hdeal : ∀ x ∈ d, 1 ≤ x ∧ x ≤ 6) (hin : ∀ x ∈ namedI l, x ∈ d) :
    sortD d l = (orderL l).map fun b => weaveL b (d.filter fun x => !inB b x) := by
  unfold sortD orderL
  have hls : ∀ t : Nat, leftS d [] t = inB d (t : Int) := fun t => by
    unfold leftS
    rw [inB_not.2 (by simp : (t : Int) ∉ ([] : List Int))]
    simp
  have eo : onlyS l (leftS d []) = namedS l := by
    funext t
    unfold onlyS
    rw [hls]
    cases h : namedS l t with
    | false => simp
    | true =>
      rw [namedS_I] at h
      rw [inB_iff.2 (hin _ (inB_iff.1 h))]; rfl
  have h1 := weave_ord hr 7 (leftS d []) (d.filter fun x => !inB (namedI l) x) 7 (cnt_le _) (fun k hk => by
    rw [hls, inB_iff] at hk
    have := hdeal _ hk
    omega) (hd.sublist List.filter_sublist) (fun x => by
      rw [List.mem_filter]
      constructor
      · rintro ⟨h1, h2⟩
        have := hdeal x h1
        refine ⟨x.toNat, by omega, ?_, ?_⟩
        · rw [hls, Int.toNat_of_nonneg (by omega)]; exact inB_iff.2 h1
        · rw [namedS_I, Int.toNat_of_nonneg (by omega)]; simpa using h2
      · rintro ⟨t, rfl, h1, h2⟩
        rw [hls] at h1
        rw [namedS_I] at h2
        exact ⟨inB_iff.1 h1, by rw [h2]; rfl⟩) (cnt_le _)
  rw [orderGo_F, orderGo_F, h1, eo]
  cases ho : ordF l 7 (namedS l) with
  | none => rfl
  | some o =>
    simp only [Option.map_some, List.nil_append]
    congr 2
    refine List.filter_congr fun x hx => ?_
    congr 1
    have hm := ordF_mem l 7 (namedS l) o (cnt_le _) (named_right hr) ho x
    have hxd := hdeal x hx
    rw [Bool.eq_iff_iff, inB_iff, inB_iff, hm]
    constructor
    · intro h
      refine ⟨x.toNat, by omega, ?_⟩
      rw [namedS_I, Int.toNat_of_nonneg (by omega)]
      exact inB_iff.2 h
    · rintro ⟨t, rfl, h⟩
      rw [namedS_I] at h
      exact inB_iff.1 h
end Go.Proofs.YtccjognnehoodahGreat
