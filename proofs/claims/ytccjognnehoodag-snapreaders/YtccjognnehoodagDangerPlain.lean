/-
  PROVED HERE: plain facts, with no word of the program: NOBODY BETWEEN, AS IF ONE BEHIND THE OTHER (Fekete): of deals that see what was when they began (chapter 13, as KindPlain has it), if nobody is between, there is an order of those that are done by which each saw what those ahead of it wrote; and if nobody is between of what is done by what was when deals began, both runs are one.
  Conditions: none.
-/
import Derived.Test.YtccjognnehoodagSnapPlain
namespace Go.Proofs.Ytccjognnehoodag

/-- Of those that ran at once: did one read what another one wrote? -/
def antiB (t : Int) (a b : Dl) : Bool := onceK a b && b.wrote.any fun item => readK t a item
def outAnti (of : Int → Dl) (ds : List Int) (t : Int) : Bool := ds.any fun u => u != t && antiB t (of t) (of u)
def intoAnti (of : Int → Dl) (ds : List Int) (t : Int) : Bool := ds.any fun u => u != t && antiB u (of u) (of t)
/-- Is one between? -/
def pivL (of : Int → Dl) (ds : List Int) : Bool := ds.any fun t => intoAnti of ds t && outAnti of ds t
def okBtw (s : Kst) (t : Int) (r : Dl) : Bool := !hitK 3 s t r && !pivL (setF s.of t r) (s.done ++ [t])
theorem okBtw_hit (s : Kst) (t : Int) (r : Dl) (h : okBtw s t r = true) : hitK 3 s t r = false := by unfold okBtw at h; simp at h; exact h.1

/-- The last of a kind by a measure, or 0. -/
def IsBy (f : Int → Int) (P : Int → Prop) (r : Int) : Prop := (r = 0 ∧ ∀ u, ¬ P u) ∨ (P r ∧ ∀ u, P u → f u ≤ f r)
theorem by_uniq {f : Int → Int} {P : Int → Prop} (hinj : ∀ u v, P u → P v → f u = f v → u = v) {r s : Int} (hr : IsBy f P r) (hs : IsBy f P s) : r = s := by
  rcases hr with ⟨e1, e2⟩ | ⟨e1, e2⟩
  · rcases hs with ⟨d1, _⟩ | ⟨d1, _⟩
    · omega
    · exact absurd d1 (e2 _)
  · rcases hs with ⟨_, d2⟩ | ⟨d1, d2⟩
    · exact absurd e1 (d2 _)
    · refine hinj _ _ e1 d1 ?_
      have := e2 _ d1
      have := d2 _ e1
      omega
theorem foldl_by (b : Int → Bool) (f : Int → Int) {ds : List Int} (hd : ds.Pairwise fun x y => f x < f y) : IsBy f (fun u => u ∈ ds ∧ b u = true) (ds.foldl (fun r t => if b t = true then t else r) 0) := by
  suffices H : ∀ (d : List Int) (r0 : Int), d.Pairwise (fun x y => f x < f y) → let r := d.foldl (fun r t => if b t = true then t else r) r0; (r = r0 ∧ ∀ u ∈ d, b u = false) ∨ (r ∈ d ∧ b r = true ∧ ∀ u ∈ d, b u = true → f u ≤ f r) from by
    rcases H ds 0 hd with ⟨h1, h2⟩ | ⟨h1, h2, h3⟩
    · exact Or.inl ⟨h1, fun u hu => by have h3 := hu.2; rw [h2 u hu.1] at h3; cases h3⟩
    · exact Or.inr ⟨⟨h1, h2⟩, fun u hu => h3 u hu.1 hu.2⟩
  intro d
  induction d with
  | nil => exact fun r0 _ => Or.inl ⟨rfl, fun u hu => (by cases hu)⟩
  | cons a d ih =>
    intro r0 hd
    obtain ⟨k1, k2⟩ := List.pairwise_cons.1 hd
    dsimp only
    rw [List.foldl_cons]
    rcases ih (if b a = true then a else r0) k2 with ⟨h1, h2⟩ | ⟨h1, h2, h3⟩
    · rw [h1]
      by_cases hb : b a = true
      · rw [if_pos hb]
        refine Or.inr ⟨List.mem_cons_self .., hb, fun u hu hub => ?_⟩
        rcases List.mem_cons.1 hu with e | hu
        · rw [e]; exact Int.le_refl _
        · rw [h2 u hu] at hub; cases hub
      · rw [if_neg hb]
        refine Or.inl ⟨rfl, fun u hu => ?_⟩
        rcases List.mem_cons.1 hu with e | hu
        · rw [e]; simpa using hb
        · exact h2 u hu
    · refine Or.inr ⟨List.mem_cons_of_mem _ h1, h2, fun u hu hub => ?_⟩
      rcases List.mem_cons.1 hu with e | hu
      · rw [e]; exact Int.le_of_lt (k1 _ h1)
      · exact h3 u hu hub
theorem who_by (ds : List Int) (of : Int → Dl) (item time : Int) : whoK ds of item time 0 = ds.foldl (fun r t => if (inB (of t).wrote item && decide ((of t).ended < time)) = true then t else r) 0 := by
  unfold whoK
  refine foldl_congr' _ _ fun b x _ => ?_
  by_cases h : (of x).ended < time
  · have e : decide (time ≤ (of x).ended) = false := by simp; omega
    rw [e, decide_eq_true h, Bool.or_false, Bool.and_true]
    cases inB (of x).wrote item <;> simp
  · have e : decide (time ≤ (of x).ended) = true := by simp; omega
    have e2 : decide ((of x).ended < time) = false := by simp; omega
    rw [e, e2, Bool.or_true, Bool.and_false]
    simp
/-- Any few can be sorted. -/
theorem sort_by (f : Int → Int) : ∀ ds : List Int, (∀ i ∈ ds, ∀ j ∈ ds, f i = f j → i = j) → ∃ o : List Int, o.Pairwise (fun x y => f x < f y) ∧ ∀ x, x ∈ o ↔ x ∈ ds := by
  intro ds
  induction ds with
  | nil => exact fun _ => ⟨[], List.Pairwise.nil, fun _ => Iff.rfl⟩
  | cons a ds ih =>
    intro hinj
    obtain ⟨o, h1, h2⟩ := ih fun i hi j hj => hinj i (List.mem_cons_of_mem _ hi) j (List.mem_cons_of_mem _ hj)
    by_cases ha : a ∈ ds
    · exact ⟨o, h1, fun x => by rw [h2 x, List.mem_cons]; exact ⟨Or.inr, fun hh => hh.elim (fun e => e ▸ ha) id⟩⟩
    · refine ⟨o.filter (fun x => decide (f x < f a)) ++ a :: o.filter (fun x => decide (f a < f x)), ?_, fun x => ?_⟩
      · refine List.pairwise_append.2 ⟨h1.sublist (List.filter_sublist ..), List.pairwise_cons.2 ⟨fun y hy => ?_, h1.sublist (List.filter_sublist ..)⟩, fun x hx y hy => ?_⟩
        · simpa using (List.mem_filter.1 hy).2
        · have hxa : f x < f a := by simpa using (List.mem_filter.1 hx).2
          rcases List.mem_cons.1 hy with e | hy
          · rw [e]; exact hxa
          · have hay : f a < f y := by simpa using (List.mem_filter.1 hy).2
            omega
      · rw [List.mem_append, List.mem_cons, List.mem_filter, List.mem_filter, List.mem_cons, h2 x]
        constructor
        · rintro (hh | hh | hh)
          · exact Or.inr hh.1
          · exact Or.inl hh
          · exact Or.inr hh.1
        · rintro (hh | hh)
          · exact Or.inr (Or.inl hh)
          · have hne : f x ≠ f a := fun e => ha (by rw [← hinj x (List.mem_cons_of_mem _ hh) a (List.mem_cons_self ..) e]; exact hh)
            rcases Int.lt_or_gt_of_ne hne with hlt | hlt
            · exact Or.inl ⟨hh, decide_eq_true hlt⟩
            · exact Or.inr (Or.inr ⟨hh, decide_eq_true hlt⟩)
/-- By what those that are done are ordered: from whom an edge leads, as it began; else as it ended. -/
def keyK (s : Kst) (t : Int) : Int := if outAnti s.of s.done t = true then (s.of t).began else (s.of t).ended
section
variable {l : List Op3} {k : Nat} {s : Kst}
theorem key_in (hS : SOkK l s) {t : Int} (ht : t ∈ s.done) : (s.of t).began ≤ keyK s t ∧ keyK s t ≤ (s.of t).ended := by
  have := hS.life t ht
  unfold keyK
  split <;> omega
theorem key_place (hK : KOk l k s) (hS : SOkK l s) {t : Int} (ht : t ∈ s.done) : (opAt l (keyK s t).toNat).1 = t := by
  unfold keyK
  split
  · exact hS.place t (hK.comm t ht).1
  · rw [(hK.comm t ht).2.2.2.2.2]
theorem key_inj (hK : KOk l k s) (hS : SOkK l s) {i j : Int} (hi : i ∈ s.done) (hj : j ∈ s.done) (h : keyK s i = keyK s j) : i = j := by
  rw [← key_place hK hS hi, h, key_place hK hS hj]
theorem ended_inj (hK : KOk l k s) {i j : Int} (hi : i ∈ s.done) (hj : j ∈ s.done) (h : (s.of i).ended = (s.of j).ended) : i = j := by
  have a1 := (hK.comm i hi).2.2.2.2.2
  rw [h, (hK.comm j hj).2.2.2.2.2] at a1
  exact (congrArg Prod.fst a1).symm
theorem meet_ne (hK : KOk l k s) (hS : SOkK l s) {i j : Int} (hi : i ∈ s.done) (hj : j ∈ s.done) (hij : i ≠ j) : (s.of i).ended ≠ (s.of j).began := fun e => hij (by
  have a1 := (hK.comm i hi).2.2.2.2.2
  have a2 := hS.place j (hK.comm j hj).1
  rw [← e, a1] at a2
  exact a2)
theorem key_prec (hS : SOkK l s) {i j : Int} (hi : i ∈ s.done) (hj : j ∈ s.done) (h : (s.of i).ended < (s.of j).began) : keyK s i < keyK s j := by
  have := key_in hS hi
  have := key_in hS hj
  omega
theorem key_anti (hK : KOk l k s) (hp : pivL s.of s.done = false) {i j : Int} (hi : i ∈ s.done) (hj : j ∈ s.done) (hij : i ≠ j) (h : antiB i (s.of i) (s.of j) = true) : keyK s i < keyK s j := by
  have ho : outAnti s.of s.done i = true := List.any_eq_true.2 ⟨j, hj, by rw [h, Bool.and_true]; simpa using fun e => hij e.symm⟩
  have hin : intoAnti s.of s.done j = true := List.any_eq_true.2 ⟨i, hi, by rw [h, Bool.and_true]; simpa using hij⟩
  have hno : outAnti s.of s.done j = false := by
    cases hx : outAnti s.of s.done j with
    | false => rfl
    | true =>
      have : pivL s.of s.done = true := List.any_eq_true.2 ⟨j, hj, by rw [hin, hx]; rfl⟩
      rw [this] at hp
      cases hp
  unfold keyK
  rw [if_pos ho, hno, if_neg (by decide)]
  have h0 := (hK.comm j hj).2.2.2.1
  unfold antiB onceK at h
  simp at h
  omega
theorem key_wrote (hK : KOk l k s) (hS : SOkK l s) {u v : Int} (hu : u ∈ s.done) (hv : v ∈ s.done) {item : Int} (h1 : inB (s.of u).wrote item = true) (h2 : inB (s.of v).wrote item = true) (h : (s.of u).ended < (s.of v).ended) : keyK s u < keyK s v := by
  have h3 := hS.excl u hu v hv h item h1 h2
  have h4 := meet_ne hK hS hu hv fun e => by rw [e] at h; omega
  exact key_prec hS hu hv (by omega)
/-- Who wrote an item last is so by both measures. -/
theorem by_turn (hK : KOk l k s) (hS : SOkK l s) {P : Int → Prop} {item r : Int} (hP : ∀ u, P u → u ∈ s.done ∧ inB (s.of u).wrote item = true) (h : IsBy (keyK s) P r) : IsBy (fun u => (s.of u).ended) P r := by
  rcases h with h | ⟨h1, h2⟩
  · exact Or.inl h
  · refine Or.inr ⟨h1, fun u hu => ?_⟩
    show (s.of u).ended ≤ (s.of r).ended
    by_cases hlt : (s.of r).ended < (s.of u).ended
    · have := key_wrote hK hS (hP r h1).1 (hP u hu).1 (hP r h1).2 (hP u hu).2 hlt
      have := h2 u hu
      omega
    · omega
/-- Whose write a read sees comes ahead, and no other one does. -/
theorem key_saw (hK : KOk l k s) (hS : SOkK l s) (hp : pivL s.of s.done = false) {t u : Int} (ht : t ∈ s.done) (hu : u ∈ s.done) {e : Op3} (he : e ∈ (s.of t).seen) (hne : e.2.2 ≠ t) (hw : inB (s.of u).wrote e.2.1 = true) (hut : u ≠ t) : keyK s u < keyK s t ↔ (s.of u).ended < (s.of t).began := by
  refine ⟨fun h => ?_, key_prec hS hu ht⟩
  have m1 := meet_ne hK hS hu ht hut
  have m2 := meet_ne hK hS ht hu fun e => hut e.symm
  by_cases c1 : (s.of u).ended < (s.of t).began
  · exact c1
  · exfalso
    by_cases c2 : (s.of t).ended < (s.of u).began
    · have := key_prec hS ht hu c2
      omega
    · have : antiB t (s.of t) (s.of u) = true := by
        unfold antiB onceK
        rw [Bool.and_eq_true, Bool.and_eq_true, Bool.or_eq_true, Bool.or_eq_true, List.any_eq_true]
        refine ⟨⟨Or.inr (decide_eq_true (by omega)), Or.inr (decide_eq_true (by omega))⟩, e.2.1, by simpa [inB] using hw, ?_⟩
        unfold readK
        rw [List.any_eq_true]
        exact ⟨e, he, by simp [hne]⟩
      have := key_anti hK hp ht hu (fun e => hut e.symm) this
      omega
/-- NOBODY BETWEEN, AS IF ONE BEHIND THE OTHER. -/
theorem fekete (hK : KOk l k s) (hS : SOkK l s) (hp : pivL s.of s.done = false) : ∃ o : List Int, o.Nodup ∧ (∀ x, x ∈ o ↔ x ∈ s.done) ∧
    (∀ p t q, o = p ++ t :: q → ((s.of t).seen, (s.of t).wrote) = expK t (lastK s.of p) (ofL (l.take k) t)) ∧ ∀ item, lastK s.of o item = lastK s.of s.done item := by
  obtain ⟨o, h1, h2⟩ := sort_by (keyK s) s.done fun i hi j hj => key_inj hK hS hi hj
  refine ⟨o, h1.imp fun {a b} hab e => (by rw [e] at hab; omega), h2, fun p t q ho => ?_, fun item => ?_⟩
  · have ht : t ∈ s.done := (h2 t).1 (by rw [ho]; simp)
    rw [ho] at h1
    obtain ⟨r1, r2, r3⟩ := List.pairwise_append.1 h1
    have hpm : ∀ u, u ∈ p ↔ (u ∈ s.done ∧ keyK s u < keyK s t) := fun u => by
      constructor
      · exact fun hu => ⟨(h2 u).1 (by rw [ho]; exact List.mem_append_left _ hu), r3 u hu t (List.mem_cons_self ..)⟩
      · rintro ⟨hu, hlt⟩
        have hm := (h2 u).2 hu
        rw [ho] at hm
        rcases List.mem_append.1 hm with hm | hm
        · exact hm
        · rcases List.mem_cons.1 hm with e | hm
          · rw [e] at hlt; omega
          · have := (List.pairwise_cons.1 r2).1 u hm
            omega
    refine hK.sees t (hK.comm t ht).1 _ fun e he hne => ?_
    rw [hS.read t (hK.comm t ht).1 e he hne, who_by]
    have A := foldl_by (fun u => inB (s.of u).wrote e.2.1 && decide ((s.of u).ended < (s.of t).began)) (fun u => (s.of u).ended) hS.rise
    have B := foldl_by (fun u => inB (s.of u).wrote e.2.1) (keyK s) r1
    have B' := by_turn hK hS (item := e.2.1) (fun u hu => ⟨((hpm u).1 hu.1).1, hu.2⟩) B
    have hPQ : (fun u => u ∈ p ∧ inB (s.of u).wrote e.2.1 = true) = (fun u => u ∈ s.done ∧ (inB (s.of u).wrote e.2.1 && decide ((s.of u).ended < (s.of t).began)) = true) := funext fun u => propext (by
      rw [hpm u, Bool.and_eq_true, decide_eq_true_eq]
      constructor
      · rintro ⟨⟨a1, a2⟩, a3⟩
        exact ⟨a1, a3, (key_saw hK hS hp ht a1 he hne a3 (fun e => by rw [e] at a2; omega)).1 a2⟩
      · rintro ⟨a1, a2, a3⟩
        have := key_prec hS a1 ht a3
        exact ⟨⟨a1, this⟩, a2⟩)
    rw [hPQ] at B'
    exact by_uniq (fun u v hu hv => ended_inj hK hu.1 hv.1) A B'
  · have A := foldl_by (fun u => inB (s.of u).wrote item) (fun u => (s.of u).ended) hS.rise
    have B := by_turn hK hS (item := item) (fun u hu => ⟨(h2 u).1 hu.1, hu.2⟩) (foldl_by (fun u => inB (s.of u).wrote item) (keyK s) h1)
    have hPQ : (fun u => u ∈ o ∧ inB (s.of u).wrote item = true) = (fun u => u ∈ s.done ∧ inB (s.of u).wrote item = true) := funext fun u => propext (by rw [h2 u])
    rw [hPQ] at B
    exact by_uniq (fun u v hu hv => ended_inj hK hu.1 hv.1) B A
end
end Go.Proofs.Ytccjognnehoodag
