/-
  PROVED HERE: plain facts, with no word of the program: NOBODY BETWEEN, AS IF ONE BEHIND THE OTHER (Fekete): of deals that see what was when they began (chapter 13, as KindPlain has it), if nobody is between, there is an order of those that are done by which each saw what those ahead of it wrote; and if nobody is between of what is done by what was when deals began, both runs are one.
  Conditions: none.
  PROVED HERE: plain facts, with no word of the program: of the run in which nobody may be between (chapter 13) nobody is; if nobody is between of what is done by what was when deals began (chapter 12), both runs are one; and so it is where one alone writes.
  Conditions: none.
-/
import Derived.Test.YtccjognnehoodafMgap
namespace Go.Proofs.Ytccjognnehoodaf

/-- Of those that ran at once: did one read what another one wrote? -/
def antiB (t : Int) (a b : Dl) : Bool := onceK a b && b.wrote.any fun item => readK t a item
def outAnti (of : Int → Dl) (ds : List Int) (t : Int) : Bool := ds.any fun u => u != t && antiB t (of t) (of u)
def intoAnti (of : Int → Dl) (ds : List Int) (t : Int) : Bool := ds.any fun u => u != t && antiB u (of u) (of t)
/-- Is one between? -/
def pivL (of : Int → Dl) (ds : List Int) : Bool := ds.any fun t => intoAnti of ds t && outAnti of ds t
def okBtw (s : Kst) (t : Int) (r : Dl) : Bool := !hitK 3 s t r && !pivL (setF s.of t r) (s.done ++ [t])
theorem okBtw_hit (s : Kst) (t : Int) (r : Dl) (h : okBtw s t r = true) : hitK 3 s t r = false := by unfold okBtw at h; simp at h; exact h.1

/-- The last of a kind by a measure, or 0. -/
def IsBy (f : Int → Int) (P : Int → Prop) (r : Int) : Prop := (r = 0 ∧ ∀ u, ¬ P u) ∨ (P r ∧ ∀ u, P u → f u ≤ f r)
theorem by_uniq {f : Int → Int} {P : Int → Prop} (hinj : ∀ u v, P u → P v → f u = f v → u = v) {r s : Int} (hr : IsBy f P r) (hs : IsBy f P s) : r = s := by
  rcases hr with ⟨e1, e2⟩ | ⟨e1, e2⟩
  · rcases hs with ⟨d1, _⟩ | ⟨d1, _⟩
    · omega
    · exact absurd d1 (e2 _)
  · rcases hs with ⟨_, d2⟩ | ⟨d1, d2⟩
    · exact absurd e1 (d2 _)
    · refine hinj _ _ e1 d1 ?_
      have := e2 _ d1
      have := d2 _ e1
      omega
theorem foldl_by (b : Int → Bool) (f : Int → Int) {ds : List Int} (hd : ds.Pairwise fun x y => f x < f y) : IsBy f (fun u => u ∈ ds ∧ b u = true) (ds.foldl (fun r t => if b t = true then t else r) 0) := by
  suffices H : ∀ (d : List Int) (r0 : Int), d.Pairwise (fun x y => f x < f y) → let r := d.foldl (fun r t => if b t = true then t else r) r0; (r = r0 ∧ ∀ u ∈ d, b u = false) ∨ (r ∈ d ∧ b r = true ∧ ∀ u ∈ d, b u = true → f u ≤ f r) from by
    rcases H ds 0 hd with ⟨h1, h2⟩ | ⟨h1, h2, h3⟩
    · exact Or.inl ⟨h1, fun u hu => by have h3 := hu.2; rw [h2 u hu.1] at h3; cases h3⟩
    · exact Or.inr ⟨⟨h1, h2⟩, fun u hu => h3 u hu.1 hu.2⟩
  intro d
  induction d with
  | nil => exact fun r0 _ => Or.inl ⟨rfl, fun u hu => (by cases hu)⟩
  | cons a d ih =>
    intro r0 hd
    obtain ⟨k1, k2⟩ := List.pairwise_cons.1 hd
    dsimp only
    rw [List.foldl_cons]
    rcases ih (if b a = true then a else r0) k2 with ⟨h1, h2⟩ | ⟨h1, h2, h3⟩
    · rw [h1]
      by_cases hb : b a = true
      · rw [if_pos hb]
        refine Or.inr ⟨List.mem_cons_self .., hb, fun u hu hub => ?_⟩
        rcases List.mem_cons.1 hu with e | hu
        · rw [e]; exact Int.le_refl _
        · rw [h2 u hu] at hub; cases hub
      · rw [if_neg hb]
        refine Or.inl ⟨rfl, fun u hu => ?_⟩
        rcases List.mem_cons.1 hu with e | hu
        · rw [e]; simpa using hb
        · exact h2 u hu
    · refine Or.inr ⟨List.mem_cons_of_mem _ h1, h2, fun u hu hub => ?_⟩
      rcases List.mem_cons.1 hu with e | hu
      · rw [e]; exact Int.le_of_lt (k1 _ h1)
      · exact h3 u hu hub
theorem who_by (ds : List Int) (of : Int → Dl) (item time : Int) : whoK ds of item time 0 = ds.foldl (fun r t => if (inB (of t).wrote item && decide ((of t).ended < time)) = true then t else r) 0 := by
  unfold whoK
  refine foldl_congr' _ _ fun b x _ => ?_
  by_cases h : (of x).ended < time
  · have e : decide (time ≤ (of x).ended) = false := by simp; omega
    rw [e, decide_eq_true h, Bool.or_false, Bool.and_true]
    cases inB (of x).wrote item <;> simp
  · have e : decide (time ≤ (of x).ended) = true := by simp; omega
    have e2 : decide ((of x).ended < time) = false := by simp; omega
    rw [e, e2, Bool.or_true, Bool.and_false]
    simp
/-- Any few can be sorted. -/
theorem sort_by (f : Int → Int) : ∀ ds : List Int, (∀ i ∈ ds, ∀ j ∈ ds, f i = f j → i = j) → ∃ o : List Int, o.Pairwise (fun x y => f x < f y) ∧ ∀ x, x ∈ o ↔ x ∈ ds := by
  intro ds
  induction ds with
  | nil => exact fun _ => ⟨[], List.Pairwise.nil, fun _ => Iff.rfl⟩
  | cons a ds ih =>
    intro hinj
    obtain ⟨o, h1, h2⟩ := ih fun i hi j hj => hinj i (List.mem_cons_of_mem _ hi) j (List.mem_cons_of_mem _ hj)
    by_cases ha : a ∈ ds
    · exact ⟨o, h1, fun x => by rw [h2 x, List.mem_cons]; exact ⟨Or.inr, fun hh => hh.elim (fun e => e ▸ ha) id⟩⟩
    · refine ⟨o.filter (fun x => decide (f x < f a)) ++ a :: o.filter (fun x => decide (f a < f x)), ?_, fun x => ?_⟩
      · refine List.pairwise_append.2 ⟨h1.sublist (List.filter_sublist ..), List.pairwise_cons.2 ⟨fun y hy => ?_, h1.sublist (List.filter_sublist ..)⟩, fun x hx y hy => ?_⟩
        · simpa using (List.mem_filter.1 hy).2
        · have hxa : f x < f a := by simpa using (List.mem_filter.1 hx).2
          rcases List.mem_cons.1 hy with e | hy
          · rw [e]; exact hxa
          · have hay : f a < f y := by simpa using (List.mem_filter.1 hy).2
            omega
      · rw [List.mem_append, List.mem_cons, List.mem_filter, List.mem_filter, List.mem_cons, h2 x]
        constructor
        · rintro (hh | hh | hh)
          · exact Or.inr hh.1
          · exact Or.inl hh
          · exact Or.inr hh.1
        · rintro (hh | hh)
          · exact Or.inr (Or.inl hh)
          · have hne : f x ≠ f a := fun e => ha (by rw [← hinj x (List.mem_cons_of_mem _ hh) a (List.mem_cons_self ..) e]; exact hh)
            rcases Int.lt_or_gt_of_ne hne with hlt | hlt
            · exact Or.inl ⟨hh, decide_eq_true hlt⟩
            · exact Or.inr (Or.inr ⟨hh, decide_eq_true hlt⟩)
/-- By what those that are done are ordered: from whom an edge leads, as it began; else as it ended. -/
def keyK (s : Kst) (t : Int) : Int := if outAnti s.of s.done t = true then (s.of t).began else (s.of t).ended
section
variable {l : List Op3} {k : Nat} {s : Kst}
theorem key_in (hS : SOkK l s) {t : Int} (ht : t ∈ s.done) : (s.of t).began ≤ keyK s t ∧ keyK s t ≤ (s.of t).ended := by
  have := hS.life t ht
  unfold keyK
  split <;> omega
theorem key_place (hK : KOk l k s) (hS : SOkK l s) {t : Int} (ht : t ∈ s.done) : (opAt l (keyK s t).toNat).1 = t := by
  unfold keyK
  split
  · exact hS.place t (hK.comm t ht).1
  · rw [(hK.comm t ht).2.2.2.2.2]
theorem key_inj (hK : KOk l k s) (hS : SOkK l s) {i j : Int} (hi : i ∈ s.done) (hj : j ∈ s.done) (h : keyK s i = keyK s j) : i = j := by
  rw [← key_place hK hS hi, h, key_place hK hS hj]
theorem ended_inj (hK : KOk l k s) {i j : Int} (hi : i ∈ s.done) (hj : j ∈ s.done) (h : (s.of i).ended = (s.of j).ended) : i = j := by
  have a1 := (hK.comm i hi).2.2.2.2.2
  rw [h, (hK.comm j hj).2.2.2.2.2] at a1
  exact (congrArg Prod.fst a1).symm
theorem meet_ne (hK : KOk l k s) (hS : SOkK l s) {i j : Int} (hi : i ∈ s.done) (hj : j ∈ s.done) (hij : i ≠ j) : (s.of i).ended ≠ (s.of j).began := fun e => hij (by
  have a1 := (hK.comm i hi).2.2.2.2.2
  have a2 := hS.place j (hK.comm j hj).1
  rw [← e, a1] at a2
  exact a2)
theorem key_prec (hS : SOkK l s) {i j : Int} (hi : i ∈ s.done) (hj : j ∈ s.done) (h : (s.of i).ended < (s.of j).began) : keyK s i < keyK s j := by
  have := key_in hS hi
  have := key_in hS hj
  omega
theorem key_anti (hK : KOk l k s) (hp : pivL s.of s.done = false) {i j : Int} (hi : i ∈ s.done) (hj : j ∈ s.done) (hij : i ≠ j) (h : antiB i (s.of i) (s.of j) = true) : keyK s i < keyK s j := by
  have ho : outAnti s.of s.done i = true := List.any_eq_true.2 ⟨j, hj, by rw [h, Bool.and_true]; simpa using fun e => hij e.symm⟩
  have hin : intoAnti s.of s.done j = true := List.any_eq_true.2 ⟨i, hi, by rw [h, Bool.and_true]; simpa using hij⟩
  have hno : outAnti s.of s.done j = false := by
    cases hx : outAnti s.of s.done j with
    | false => rfl
    | true =>
      have : pivL s.of s.done = true := List.any_eq_true.2 ⟨j, hj, by rw [hin, hx]; rfl⟩
      rw [this] at hp
      cases hp
  unfold keyK
  rw [if_pos ho, hno, if_neg (by decide)]
  have h0 := (hK.comm j hj).2.2.2.1
  unfold antiB onceK at h
  simp at h
  omega
theorem key_wrote (hK : KOk l k s) (hS : SOkK l s) {u v : Int} (hu : u ∈ s.done) (hv : v ∈ s.done) {item : Int} (h1 : inB (s.of u).wrote item = true) (h2 : inB (s.of v).wrote item = true) (h : (s.of u).ended < (s.of v).ended) : keyK s u < keyK s v := by
  have h3 := hS.excl u hu v hv h item h1 h2
  have h4 := meet_ne hK hS hu hv fun e => by rw [e] at h; omega
  exact key_prec hS hu hv (by omega)
/-- Who wrote an item last is so by both measures. -/
theorem by_turn (hK : KOk l k s) (hS : SOkK l s) {P : Int → Prop} {item r : Int} (hP : ∀ u, P u → u ∈ s.done ∧ inB (s.of u).wrote item = true) (h : IsBy (keyK s) P r) : IsBy (fun u => (s.of u).ended) P r := by
  rcases h with h | ⟨h1, h2⟩
  · exact Or.inl h
  · refine Or.inr ⟨h1, fun u hu => ?_⟩
    show (s.of u).ended ≤ (s.of r).ended
    by_cases hlt : (s.of r).ended < (s.of u).ended
    · have := key_wrote hK hS (hP r h1).1 (hP u hu).1 (hP r h1).2 (hP u hu).2 hlt
      have := h2 u hu
      omega
    · omega
/-- Whose write a read sees comes ahead, and no other one does. -/
theorem key_saw (hK : KOk l k s) (hS : SOkK l s) (hp : pivL s.of s.done = false) {t u : Int} (ht : t ∈ s.done) (hu : u ∈ s.done) {e : Op3} (he : e ∈ (s.of t).seen) (hne : e.2.2 ≠ t) (hw : inB (s.of u).wrote e.2.1 = true) (hut : u ≠ t) : keyK s u < keyK s t ↔ (s.of u).ended < (s.of t).began := by
  refine ⟨fun h => ?_, key_prec hS hu ht⟩
  have m1 := meet_ne hK hS hu ht hut
  have m2 := meet_ne hK hS ht hu fun e => hut e.symm
  by_cases c1 : (s.of u).ended < (s.of t).began
  · exact c1
  · exfalso
    by_cases c2 : (s.of t).ended < (s.of u).began
    · have := key_prec hS ht hu c2
      omega
    · have : antiB t (s.of t) (s.of u) = true := by
        unfold antiB onceK
        rw [Bool.and_eq_true, Bool.and_eq_true, Bool.or_eq_true, Bool.or_eq_true, List.any_eq_true]
        refine ⟨⟨Or.inr (decide_eq_true (by omega)), Or.inr (decide_eq_true (by omega))⟩, e.2.1, by simpa [inB] using hw, ?_⟩
        unfold readK
        rw [List.any_eq_true]
        exact ⟨e, he, by simp [hne]⟩
      have := key_anti hK hp ht hu (fun e => hut e.symm) this
      omega
/-- NOBODY BETWEEN, AS IF ONE BEHIND THE OTHER. -/
theorem fekete (hK : KOk l k s) (hS : SOkK l s) (hp : pivL s.of s.done = false) : ∃ o : List Int, o.Nodup ∧ (∀ x, x ∈ o ↔ x ∈ s.done) ∧
    (∀ p t q, o = p ++ t :: q → ((s.of t).seen, (s.of t).wrote) = expK t (lastK s.of p) (ofL (l.take k) t)) ∧ ∀ item, lastK s.of o item = lastK s.of s.done item := by
  obtain ⟨o, h1, h2⟩ := sort_by (keyK s) s.done fun i hi j hj => key_inj hK hS hi hj
  refine ⟨o, h1.imp fun {a b} hab e => (by rw [e] at hab; omega), h2, fun p t q ho => ?_, fun item => ?_⟩
  · have ht : t ∈ s.done := (h2 t).1 (by rw [ho]; simp)
    rw [ho] at h1
    obtain ⟨r1, r2, r3⟩ := List.pairwise_append.1 h1
    have hpm : ∀ u, u ∈ p ↔ (u ∈ s.done ∧ keyK s u < keyK s t) := fun u => by
      constructor
      · exact fun hu => ⟨(h2 u).1 (by rw [ho]; exact List.mem_append_left _ hu), r3 u hu t (List.mem_cons_self ..)⟩
      · rintro ⟨hu, hlt⟩
        have hm := (h2 u).2 hu
        rw [ho] at hm
        rcases List.mem_append.1 hm with hm | hm
        · exact hm
        · rcases List.mem_cons.1 hm with e | hm
          · rw [e] at hlt; omega
          · have := (List.pairwise_cons.1 r2).1 u hm
            omega
    refine hK.sees t (hK.comm t ht).1 _ fun e he hne => ?_
    rw [hS.read t (hK.comm t ht).1 e he hne, who_by]
    have A := foldl_by (fun u => inB (s.of u).wrote e.2.1 && decide ((s.of u).ended < (s.of t).began)) (fun u => (s.of u).ended) hS.rise
    have B := foldl_by (fun u => inB (s.of u).wrote e.2.1) (keyK s) r1
    have B' := by_turn hK hS (item := e.2.1) (fun u hu => ⟨((hpm u).1 hu.1).1, hu.2⟩) B
    have hPQ : (fun u => u ∈ p ∧ inB (s.of u).wrote e.2.1 = true) = (fun u => u ∈ s.done ∧ (inB (s.of u).wrote e.2.1 && decide ((s.of u).ended < (s.of t).began)) = true) := funext fun u => propext (by
      rw [hpm u, Bool.and_eq_true, decide_eq_true_eq]
      constructor
      · rintro ⟨⟨a1, a2⟩, a3⟩
        exact ⟨a1, a3, (key_saw hK hS hp ht a1 he hne a3 (fun e => by rw [e] at a2; omega)).1 a2⟩
      · rintro ⟨a1, a2, a3⟩
        have := key_prec hS a1 ht a3
        exact ⟨⟨a1, this⟩, a2⟩)
    rw [hPQ] at B'
    exact by_uniq (fun u v hu hv => ended_inj hK hu.1 hv.1) A B'
  · have A := foldl_by (fun u => inB (s.of u).wrote item) (fun u => (s.of u).ended) hS.rise
    have B := by_turn hK hS (item := item) (fun u hu => ⟨(h2 u).1 hu.1, hu.2⟩) (foldl_by (fun u => inB (s.of u).wrote item) (keyK s) h1)
    have hPQ : (fun u => u ∈ o ∧ inB (s.of u).wrote item = true) = (fun u => u ∈ s.done ∧ inB (s.of u).wrote item = true) := funext fun u => propext (by rw [h2 u])
    rw [hPQ] at B
    exact by_uniq (fun u v hu hv => ended_inj hK hu.1 hv.1) B A
end
end Go.Proofs.Ytccjognnehoodaf

namespace Go.Proofs.Ytccjognnehoodaf

theorem any_alike3 {α : Type} {f g : α → Bool} : ∀ (l : List α), (∀ x ∈ l, f x = g x) → l.any f = l.any g := by
  intro l
  induction l with
  | nil => intros; rfl
  | cons a l ih =>
    intro h
    rw [List.any_cons, List.any_cons, h a (List.mem_cons_self ..), ih fun x hx => h x (List.mem_cons_of_mem _ hx)]
theorem piv_congr {of of' : Int → Dl} {ds : List Int} (h : ∀ t ∈ ds, ∀ u ∈ ds, t ≠ u → antiB t (of t) (of u) = antiB t (of' t) (of' u)) : pivL of ds = pivL of' ds := by
  unfold pivL
  refine any_alike3 _ fun t ht => ?_
  have e1 : intoAnti of ds t = intoAnti of' ds t := by
    unfold intoAnti
    refine any_alike3 _ fun u hu => ?_
    by_cases e : u = t
    · simp [e]
    · rw [h u hu t ht e]
  have e2 : outAnti of ds t = outAnti of' ds t := by
    unfold outAnti
    refine any_alike3 _ fun u hu => ?_
    by_cases e : u = t
    · simp [e]
    · rw [h t ht u hu fun e' => e e'.symm]
  rw [e1, e2]
/-- One that commits now, and one that runs still: both are at once with the same. -/
theorem piv_commit {l : List Op3} {k : Nat} {s : Kst} (hK : KOk l k s) {t : Int} (hnd : t ∉ s.done) {r : Dl} (hr : r.ended = -1) : pivL (setF s.of t r) (s.done ++ [t]) = pivL (setF s.of t { r with ended := (k : Int) }) (s.done ++ [t]) := by
  have hb : ∀ u ∈ s.done, (s.of u).began < (k : Int) := fun u hu => (hK.times u (hK.comm u hu).1).2
  refine piv_congr fun x hx y hy hxy => ?_
  rcases List.mem_append.1 hx with hx | hx
  · have ex : x ≠ t := fun e => hnd (e ▸ hx)
    rw [setF_other _ _ ex, setF_other _ _ ex]
    rcases List.mem_append.1 hy with hy | hy
    · have ey : y ≠ t := fun e => hnd (e ▸ hy)
      rw [setF_other _ _ ey, setF_other _ _ ey]
    · rw [List.mem_singleton.1 hy, setF_same, setF_same]
      unfold antiB onceK
      dsimp only
      rw [hr]
      have h1 := hb x hx
      have e1 : decide ((s.of x).began < (k : Int)) = true := decide_eq_true h1
      have e2 : decide ((-1 : Int) < 0) = true := by decide
      rw [e1, e2, Bool.or_true, Bool.true_or]
  · rw [List.mem_singleton.1 hx, setF_same, setF_same]
    rcases List.mem_append.1 hy with hy | hy
    · have ey : y ≠ t := fun e => hnd (e ▸ hy)
      rw [setF_other _ _ ey, setF_other _ _ ey]
      unfold antiB onceK
      dsimp only
      rw [hr]
      have h1 := hb y hy
      have e1 : decide ((s.of y).began < (k : Int)) = true := decide_eq_true h1
      have e2 : decide ((-1 : Int) < 0) = true := by decide
      rw [e1, e2, Bool.or_true, Bool.true_or]
      rfl
    · exact absurd ((List.mem_singleton.1 hx).trans (List.mem_singleton.1 hy).symm) hxy
theorem piv_stay {s : Kst} {t : Int} (hnd : t ∉ s.done) (r : Dl) : pivL (setF s.of t r) s.done = pivL s.of s.done :=
  piv_congr fun x hx y hy _ => by rw [setF_other s.of r (show x ≠ t from fun e => hnd (e ▸ hx)), setF_other s.of r (show y ≠ t from fun e => hnd (e ▸ hy))]
theorem piv_grow {of of' : Int → Dl} {ds es : List Int} (hs : ∀ t ∈ ds, t ∈ es) (ho : ∀ t ∈ ds, of' t = of t) (h : pivL of ds = true) : pivL of' es = true := by
  unfold pivL at h ⊢
  obtain ⟨t, ht, h1⟩ := List.any_eq_true.1 h
  rw [Bool.and_eq_true] at h1
  refine List.any_eq_true.2 ⟨t, hs t ht, ?_⟩
  rw [Bool.and_eq_true]
  unfold intoAnti outAnti at h1 ⊢
  obtain ⟨⟨u, hu, h2⟩, ⟨v, hv, h3⟩⟩ := And.intro (List.any_eq_true.1 h1.1) (List.any_eq_true.1 h1.2)
  exact ⟨List.any_eq_true.2 ⟨u, hs u hu, by rw [ho u hu, ho t ht]; exact h2⟩, List.any_eq_true.2 ⟨v, hs v hv, by rw [ho t ht, ho v hv]; exact h3⟩⟩
/-- What a step does to those that are done. -/
theorem step_parts (kind : Int) (okF : Kst → Int → Dl → Bool) (s : Kst) (k : Int) (o : Op3) :
    (o.2.1 = 3 ∧ okF s o.1 (nowK s k o.1) = true ∧ stepK kind okF s k o = doneStep s k o.1) ∨ ((o.2.1 ≠ 3 ∨ okF s o.1 (nowK s k o.1) = false) ∧ ∃ r lk, stepK kind okF s k o = ⟨s.done, setF s.of o.1 r, setF s.beg o.1 true, lk⟩) := by
  unfold stepK
  split
  · rename_i h1
    exact Or.inr ⟨Or.inl (by omega), _, _, rfl⟩
  · split
    · rename_i h1
      exact Or.inr ⟨Or.inl (by omega), _, _, rfl⟩
    · split
      · rename_i h3
        split
        · rename_i hok
          exact Or.inl ⟨h3, hok, rfl⟩
        · rename_i hok
          exact Or.inr ⟨Or.inr (by simpa using hok), _, _, rfl⟩
      · rename_i h3
        exact Or.inr ⟨Or.inl h3, _, _, rfl⟩
/-- Where nobody may be between nobody is. -/
theorem danger_free {l : List Op3} (h : (chk l).2 = 0) : ∀ k, k ≤ l.length → pivL (runK 3 okBtw l k).of (runK 3 okBtw l k).done = false := by
  obtain ⟨_, h2, h3⟩ := (chk_iff l).1 h
  intro k
  induction k with
  | zero => exact fun _ => rfl
  | succ k ih =>
    intro hk
    have hK := run_kOk 3 okBtw h k (by omega)
    have hnd := hK.free h3 (show k < l.length by omega)
    show pivL (stepK 3 okBtw (runK 3 okBtw l k) (k : Int) (opAt l k)).of (stepK 3 okBtw (runK 3 okBtw l k) (k : Int) (opAt l k)).done = false
    rcases step_parts 3 okBtw (runK 3 okBtw l k) (k : Int) (opAt l k) with ⟨_, h5, h6⟩ | ⟨_, r, lk, h6⟩
    · rw [h6]
      unfold doneStep
      dsimp only
      rw [← piv_commit hK hnd ((hK.now _).2.2.2 hnd)]
      unfold okBtw at h5
      simp at h5
      exact h5.2
    · rw [h6]
      dsimp only
      rw [piv_stay hnd]
      exact ih (by omega)
theorem piv_keep (kind : Int) (okF : Kst → Int → Dl → Bool) {l : List Op3} (h : (chk l).2 = 0) (k : Nat) : ∀ n, k + n ≤ l.length → pivL (runK kind okF l k).of (runK kind okF l k).done = true → pivL (runK kind okF l (k + n)).of (runK kind okF l (k + n)).done = true := by
  obtain ⟨_, h2, h3⟩ := (chk_iff l).1 h
  intro n
  induction n with
  | zero => exact fun _ hh => hh
  | succ n ih =>
    intro hn hh
    have h1 := ih (by omega) hh
    have hK := run_kOk kind okF h (k + n) (by omega)
    have hnd := hK.free h3 (show k + n < l.length by omega)
    show pivL (stepK kind okF (runK kind okF l (k + n)) ((k + n : Nat) : Int) (opAt l (k + n))).of (stepK kind okF (runK kind okF l (k + n)) ((k + n : Nat) : Int) (opAt l (k + n))).done = true
    rcases step_parts kind okF (runK kind okF l (k + n)) ((k + n : Nat) : Int) (opAt l (k + n)) with ⟨_, _, h6⟩ | ⟨_, r, lk, h6⟩
    · rw [h6]
      unfold doneStep
      dsimp only
      exact piv_grow (fun t ht => List.mem_append_left _ ht) (fun t ht => setF_other _ _ fun e => hnd (e ▸ ht)) h1
    · rw [h6]
      dsimp only
      rw [piv_stay hnd]
      exact h1
theorem from_same (s : Kst) (k : Int) (r : Dl) (t item : Int) : fromK 3 s k r t item = fromK 2 s k r t item := rfl
theorem hit_same (s : Kst) (t : Int) (r : Dl) : hitK 3 s t r = hitK 2 s t r := by
  unfold hitK
  simp
/-- NOBODY IS BETWEEN: then both runs are one. -/
theorem danger_snap {l : List Op3} (h : (chk l).2 = 0) (hp : pivL (runK 2 okS l l.length).of (runK 2 okS l l.length).done = false) : ∀ k, k ≤ l.length → runK 3 okBtw l k = runK 2 okS l k := by
  obtain ⟨_, h2, h3⟩ := (chk_iff l).1 h
  intro k
  induction k with
  | zero => exact fun _ => rfl
  | succ k ih =>
    intro hk
    show stepK 3 okBtw (runK 3 okBtw l k) (k : Int) (opAt l k) = stepK 2 okS (runK 2 okS l k) (k : Int) (opAt l k)
    rw [ih (by omega)]
    have hK := run_kOk 2 okS h k (by omega)
    have hnd := hK.free h3 (show k < l.length by omega)
    have hok : (opAt l k).2.1 = 3 → okBtw (runK 2 okS l k) (opAt l k).1 (nowK (runK 2 okS l k) k (opAt l k).1) = okS (runK 2 okS l k) (opAt l k).1 (nowK (runK 2 okS l k) k (opAt l k).1) := fun ho => by
      unfold okBtw
      rw [hit_same]
      show (okS (runK 2 okS l k) (opAt l k).1 (nowK (runK 2 okS l k) k (opAt l k).1) && !pivL _ _) = _
      cases hs : okS (runK 2 okS l k) (opAt l k).1 (nowK (runK 2 okS l k) k (opAt l k).1) with
      | false => rfl
      | true =>
        rw [Bool.true_and, piv_commit hK hnd ((hK.now _).2.2.2 hnd)]
        have hstep : runK 2 okS l (k + 1) = doneStep (runK 2 okS l k) k (opAt l k).1 := by
          show stepK 2 okS (runK 2 okS l k) (k : Int) (opAt l k) = _
          unfold stepK
          rw [if_neg (by omega), if_neg (by omega), if_pos ho, if_pos hs]
        cases hx : pivL (setF (runK 2 okS l k).of (opAt l k).1 { nowK (runK 2 okS l k) k (opAt l k).1 with ended := (k : Int) }) ((runK 2 okS l k).done ++ [(opAt l k).1]) with
        | false => rfl
        | true =>
          have hh : pivL (runK 2 okS l (k + 1)).of (runK 2 okS l (k + 1)).done = true := by
            rw [hstep]
            exact hx
          have := piv_keep 2 okS h (k + 1) (l.length - (k + 1)) (by omega) hh
          rw [show k + 1 + (l.length - (k + 1)) = l.length by omega, hp] at this
          cases this
    unfold stepK
    split
    · rfl
    · split
      · rfl
      · split
        · rename_i ho
          rw [hok ho]
        · rfl
/-- Of two that are done an edge leads to one that writes. -/
theorem anti_writes {t : Int} {a b : Dl} (h : antiB t a b = true) : b.wrote ≠ [] := fun e => by
  unfold antiB at h
  rw [e] at h
  simp at h
/-- WHERE ONE ALONE WRITES NOBODY IS BETWEEN. -/
theorem one_writes (kind : Int) (okF : Kst → Int → Dl → Bool) {l : List Op3} (h : (chk l).2 = 0) {tx : Int} (hw : ∀ o ∈ l, o.2.1 = 2 → o.1 = tx) : pivL (runK kind okF l l.length).of (runK kind okF l l.length).done = false := by
  have hK := run_kOk kind okF h l.length (Nat.le_refl _)
  have hwr := run_wr kind okF h l.length (Nat.le_refl _)
  rw [List.take_length] at hwr
  have only : ∀ t ∈ (runK kind okF l l.length).done, ((runK kind okF l l.length).of t).wrote ≠ [] → t = tx := fun t ht hne => by
    rw [hwr t (hK.comm t ht).1] at hne
    unfold wrL ofL at hne
    obtain ⟨x, hx⟩ := List.exists_mem_of_ne_nil _ hne
    obtain ⟨o, ho, _⟩ := List.mem_map.1 hx
    rw [List.mem_filter, List.mem_filter] at ho
    rw [← hw o ho.1.1 (by simpa using ho.2)]
    have := ho.1.2
    simp at this
    exact this.symm
  cases hx : pivL (runK kind okF l l.length).of (runK kind okF l l.length).done with
  | false => rfl
  | true =>
    exfalso
    unfold pivL intoAnti outAnti at hx
    obtain ⟨t, ht, h1⟩ := List.any_eq_true.1 hx
    rw [Bool.and_eq_true] at h1
    obtain ⟨u, hu, h2⟩ := List.any_eq_true.1 h1.1
    obtain ⟨v, hv, h3⟩ := List.any_eq_true.1 h1.2
    rw [Bool.and_eq_true] at h2 h3
    have e1 := only t ht (anti_writes h2.2)
    have e2 := only v hv (anti_writes h3.2)
    have := h3.1
    rw [e1, e2] at this
    simp at this
end Go.Proofs.Ytccjognnehoodaf
