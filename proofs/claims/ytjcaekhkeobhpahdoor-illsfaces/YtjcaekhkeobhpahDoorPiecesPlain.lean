/-
  PROVED HERE: plain facts, with no word of the program: deals one behind the other, each reading one item and writing another one, are right, done, in one piece each; along any order of them they are so again; and the order that their edges ask is that in which they come.
  Conditions: none.
-/
import Derived.Test.YtjcaekhkeobhpahDoorMgal
import Derived.Test.YtjcaekhkeobhpahDoorMgam
namespace Go.Proofs.YtjcaekhkeobhpahDoor

def pieceL (a b t : Int) : List Op3 := [(t, 1, a), (t, 2, b), (t, 3, 0)]
def piecesL (a b : Int) (ps : List Int) : List Op3 := ps.flatMap (pieceL a b)
/-- Deals, each once. -/
structure Deals1 (ps : List Int) : Prop where
  deal : ∀ x ∈ ps, 1 ≤ x ∧ x ≤ 6
  once : ps.Nodup
theorem Deals1.len {ps : List Int} (h : Deals1 ps) : ps.length ≤ 6 := by
  have h1 := h.once.length_le_of_subset (l₂ := [1, 2, 3, 4, 5, 6]) fun x hx => by
    have := h.deal x hx
    simp; omega
  simpa using h1
theorem pieces_cons (a b t : Int) (ps : List Int) : piecesL a b (t :: ps) = (t, 1, a) :: (t, 2, b) :: (t, 3, 0) :: piecesL a b ps := by simp [piecesL, pieceL]
theorem pieces_len (a b : Int) (ps : List Int) : (piecesL a b ps).length = 3 * ps.length := by
  induction ps with
  | nil => rfl
  | cons t ps ih => rw [pieces_cons]; simp [ih]; omega
theorem pieces_snoc (a b t : Int) (ps : List Int) : piecesL a b (ps ++ [t]) = piecesL a b ps ++ [(t, 1, a), (t, 2, b), (t, 3, 0)] := by simp [piecesL, pieceL]
theorem mem_pieces {a b : Int} {ps : List Int} {o : Op3} : o ∈ piecesL a b ps ↔ ∃ t ∈ ps, o = (t, 1, a) ∨ o = (t, 2, b) ∨ o = (t, 3, 0) := by
  unfold piecesL
  rw [List.mem_flatMap]
  simp [pieceL]
theorem pieces_at (a b : Int) : ∀ (ps : List Int) (k : Nat), k < ps.length → opAt (piecesL a b ps) (3 * k) = (ps.getD k 0, 1, a) ∧ opAt (piecesL a b ps) (3 * k + 1) = (ps.getD k 0, 2, b) ∧ opAt (piecesL a b ps) (3 * k + 2) = (ps.getD k 0, 3, 0) := by
  intro ps
  induction ps with
  | nil => intro k hk; simp at hk
  | cons t ps ih =>
    intro k hk
    rw [pieces_cons]
    cases k with
    | zero => exact ⟨rfl, rfl, rfl⟩
    | succ k =>
      obtain ⟨h1, h2, h3⟩ := ih k (by simpa using hk)
      rw [show 3 * (k + 1) = 3 * k + 3 by omega]
      exact ⟨h1, h2, h3⟩
theorem pieces_calm (a b : Int) : ∀ ps : List Int, ps.Nodup → Calm (piecesL a b ps) := by
  intro ps
  induction ps with
  | nil => intro _; exact List.Pairwise.nil
  | cons t ps ih =>
    intro h
    obtain ⟨h1, h2⟩ := List.nodup_cons.1 h
    rw [pieces_cons]
    unfold Calm
    refine List.pairwise_cons.2 ⟨fun o _ => by simp [endsB], List.pairwise_cons.2 ⟨fun o _ => by simp [endsB], List.pairwise_cons.2 ⟨fun o ho => ?_, ih h2⟩⟩⟩
    obtain ⟨u, hu, h3⟩ := mem_pieces.1 ho
    have hut : u ≠ t := fun e => h1 (e ▸ hu)
    rintro ⟨e, _⟩
    rcases h3 with rfl | rfl | rfl <;> exact hut e.symm
theorem pieces_chk {a b : Int} (ha : 1 ≤ a ∧ a ≤ 6) (hb : 1 ≤ b ∧ b ≤ 6) {ps : List Int} (h : Deals1 ps) : (chk (piecesL a b ps)).2 = 0 := by
  refine (chk_iff _).2 ⟨by rw [pieces_len]; have := h.len; omega, fun o ho => ?_, pieces_calm a b ps h.once⟩
  obtain ⟨t, ht, h3⟩ := mem_pieces.1 ho
  have := h.deal t ht
  rcases h3 with rfl | rfl | rfl <;> simp [isOpB, endsB] <;> omega
theorem pieces_done {a b : Int} {ps : List Int} (h : Deals1 ps) : doneL (piecesL a b ps) = piecesL a b ps := by
  unfold doneL
  refine List.filter_eq_self.2 fun o ho => ?_
  obtain ⟨t, ht, h3⟩ := mem_pieces.1 ho
  have hd := h.deal t ht
  have e : o.1 = t := by rcases h3 with rfl | rfl | rfl <;> rfl
  unfold commIn
  refine List.any_eq_true.2 ⟨(t, 3, 0), mem_pieces.2 ⟨t, ht, .inr (.inr rfl)⟩, ?_⟩
  rw [e]; simp; omega
theorem sort_of_mem {ps d : List Int} (hn : ps.Nodup) (hd : d.Pairwise (· < ·)) (h : ∀ x, x ∈ ps ↔ x ∈ d) : sortI ps = d := by
  have h1 : (sortI ps).Nodup := (sortI_perm ps).nodup_iff.2 hn
  rw [List.nodup_iff_pairwise_ne] at h1
  exact rise_uniq _ _ (((sortI_sorted ps).and h1).imp fun {a b} hab => by omega) hd fun x => ((sortI_perm ps).mem_iff).trans (h x)
theorem pieces_deals {a b : Int} {ps : List Int} (h : Deals1 ps) (x : Int) : x ∈ ps ↔ x ∈ dealsL (piecesL a b ps) := by
  rw [mem_deals, hasB_iff]
  constructor
  · intro hx
    exact ⟨(h.deal x hx).1, (h.deal x hx).2, (x, 3, 0), mem_pieces.2 ⟨x, hx, .inr (.inr rfl)⟩, rfl⟩
  · rintro ⟨_, _, o, ho, rfl⟩
    obtain ⟨t, ht, h3⟩ := mem_pieces.1 ho
    rcases h3 with rfl | rfl | rfl <;> exact ht
theorem pieces_sort {a b : Int} {ps : List Int} (h : Deals1 ps) : sortI ps = dealsL (piecesL a b ps) := sort_of_mem h.once (dealsL_rise _) (pieces_deals h)
theorem pieces_other {d : List Op3} {qs : List Int} (hp : sortI qs = dealsL d) : Deals1 qs where
  deal := fun _ hx => order_deal hp hx
  once := (sort_perm hp).nodup_iff.2 (rise_nodup (dealsL_rise _))
theorem of_piece {a b t : Int} : ∀ {ps : List Int}, ps.Nodup → (t ∈ ps → ofL (piecesL a b ps) t = pieceL a b t) ∧ (t ∉ ps → ofL (piecesL a b ps) t = []) := by
  intro ps
  induction ps with
  | nil => intro _; exact ⟨fun h => (by cases h), fun _ => rfl⟩
  | cons u ps ih =>
    intro hn
    obtain ⟨h1, h2⟩ := List.nodup_cons.1 hn
    obtain ⟨i1, i2⟩ := ih h2
    unfold ofL at i1 i2 ⊢
    rw [pieces_cons]
    by_cases e : u = t
    · subst e
      refine ⟨fun _ => ?_, fun h => absurd (List.mem_cons_self ..) h⟩
      simp [i2 h1, pieceL]
    · refine ⟨fun h => ?_, fun h => ?_⟩
      · rcases List.mem_cons.1 h with h | h
        · exact absurd h.symm e
        · simp [e, i1 h]
      · simp [e, i2 fun h3 => h (List.mem_cons_of_mem _ h3)]
theorem pieces_along {a b : Int} {ps : List Int} (h : ps.Nodup) : ∀ qs : List Int, (∀ x ∈ qs, x ∈ ps) → alongL (piecesL a b ps) qs = piecesL a b qs := by
  intro qs
  induction qs with
  | nil => intro _; rfl
  | cons q qs ih =>
    intro hq
    have h1 := ih fun x hx => hq x (List.mem_cons_of_mem _ hx)
    have h2 := (of_piece (a := a) (b := b) h).1 (hq q (List.mem_cons_self ..))
    show ofL (piecesL a b ps) q ++ alongL (piecesL a b ps) qs = pieceL a b q ++ piecesL a b qs
    rw [h1, h2]
theorem pieces_ser (a b : Int) (ps : List Int) : serB (piecesL a b ps) = true := by
  have key : ∀ n, n ≤ 3 * ps.length → badTo (piecesL a b ps) n = 0 := by
    intro n
    induction n with
    | zero => intro _; rfl
    | succ n ih =>
      intro hn
      have h0 := ih (by omega)
      by_cases hz : n = 0
      · subst hz; exact badTo_one _
      · rw [badTo_no ?_]
        · exact h0
        · obtain ⟨k, r, hk, hr⟩ : ∃ k r, n = 3 * k + r ∧ r < 3 := ⟨n / 3, n % 3, by omega, by omega⟩
          obtain ⟨p0, p1, p2⟩ := pieces_at a b ps k (by omega)
          unfold badAt
          rcases (show r = 0 ∨ r = 1 ∨ r = 2 by omega) with rfl | rfl | rfl
          · obtain ⟨_, _, q2⟩ := pieces_at a b ps (k - 1) (by omega)
            rw [show n - 1 = 3 * (k - 1) + 2 by omega, q2]; simp
          · rw [hk, p1, show 3 * k + 1 - 1 = 3 * k by omega, p0]; simp
          · rw [hk, p2, show 3 * k + 2 - 1 = 3 * k + 1 by omega, p1]; simp
  unfold serB
  rw [pieces_len, key _ (Nat.le_refl _)]; rfl
/-- Edges lead from each to all behind it, and no others. -/
theorem pieces_edges {a b : Int} {ps : List Int} (h : Deals1 ps) (e : Edge2) : e ∈ edgesTo (piecesL a b ps) 36 ↔ ∃ p q : Nat, p < q ∧ q < ps.length ∧ e = (ps.getD p 0, ps.getD q 0) := by
  unfold edgesTo
  rw [List.take_of_length_le (by simp [allE]), List.mem_filter]
  simp only [leadsB, List.any_eq_true, beq_iff_eq]
  have hg : ∀ k, k < ps.length → ps.getD k 0 ∈ ps := fun k hk => by simp [List.getD, List.getElem?_eq_getElem hk]
  constructor
  · rintro ⟨_, p, hp, rfl⟩
    obtain ⟨i, j, hij, hj, ho, rfl⟩ := mem_pairs.1 hp
    rw [pieces_len] at hj
    have ei : ∀ i, i < 3 * ps.length → (opAt (piecesL a b ps) i).1 = ps.getD (i / 3) 0 := fun i hi => by
      obtain ⟨p0, p1, p2⟩ := pieces_at a b ps (i / 3) (by omega)
      rcases (show i = 3 * (i / 3) ∨ i = 3 * (i / 3) + 1 ∨ i = 3 * (i / 3) + 2 by omega) with e | e | e
      · rw [e, p0, show 3 * (i / 3) / 3 = i / 3 by omega]
      · rw [e, p1, show (3 * (i / 3) + 1) / 3 = i / 3 by omega]
      · rw [e, p2, show (3 * (i / 3) + 2) / 3 = i / 3 by omega]
    have hne : (opAt (piecesL a b ps) i).1 ≠ (opAt (piecesL a b ps) j).1 := by
      unfold oddB at ho
      simp at ho
      exact ho.1
    rw [ei i (by omega), ei j hj] at hne
    refine ⟨i / 3, j / 3, ?_, by omega, ?_⟩
    · have : i / 3 ≠ j / 3 := fun e => hne (by rw [e])
      omega
    · unfold edgeOf
      simp only [Int.toNat_natCast]
      rw [ei i (by omega), ei j hj]
  · rintro ⟨p, q, hpq, hq, rfl⟩
    have d1 := h.deal _ (hg p (by omega))
    have d2 := h.deal _ (hg q hq)
    refine ⟨mem_allE d1.1 d1.2 d2.1 d2.2, ((3 * p + 1 : Nat), (3 * q + 1 : Nat)), mem_pairs.2 ⟨3 * p + 1, 3 * q + 1, by omega, by rw [pieces_len]; omega, ?_, rfl⟩, ?_⟩
    · rw [(pieces_at a b ps p (by omega)).2.1, (pieces_at a b ps q hq).2.1]
      have : ps.getD p 0 ≠ ps.getD q 0 := fun e => by
        have := nodup_at h.once (i := p) (j := q) (x := ps.getD p 0) (by simp [List.getD, List.getElem?_eq_getElem (show p < ps.length by omega)]) (by rw [e]; simp [List.getD, List.getElem?_eq_getElem hq])
        omega
      unfold oddB
      rw [bne_iff_ne.2 this]
      simp
    · unfold edgeOf
      simp only [Int.toNat_natCast]
      rw [(pieces_at a b ps p (by omega)).2.1, (pieces_at a b ps q hq).2.1]
theorem edges_right (d : List Op3) (n : Nat) : Right (edgesTo d n) := fun e he => by
  have h1 := (List.mem_filter.1 he).1
  have h2 := List.mem_of_mem_take h1
  unfold allE at h2
  obtain ⟨k, hk, rfl⟩ := List.mem_map.1 h2
  have := List.mem_range.1 hk
  simp only
  omega
theorem edges_gchk (d : List Op3) (n : Nat) : gchk (edgesTo d n) = 0 := by
  have h1 := edgesTo_len d n
  unfold gchk
  rw [if_neg (by omega), if_neg]
  intro h
  obtain ⟨e, he, h2⟩ := List.any_eq_true.1 h
  have := edges_right d n e he
  simp [wrongB, dealB, this] at h2
/-- Who leads to all behind it goes ahead of them. -/
theorem line_ord {l : List Edge2} {ps : List Int} (h : Deals1 ps) (hl : ∀ e, e ∈ l ↔ ∃ p q : Nat, p < q ∧ q < ps.length ∧ e = (ps.getD p 0, ps.getD q 0)) :
    ∀ (qs pre : List Int) (s : Set7) (n : Nat), ps = pre ++ qs → (∀ t : Nat, s t = true ↔ (t : Int) ∈ qs) → cntS s ≤ n → ordF l n s = some qs := by
  intro qs
  induction qs with
  | nil =>
    intro pre s n _ hs _
    refine ordF_end ?_ n
    cases ha : anyS s with
    | false => rfl
    | true =>
      obtain ⟨k, _, hk⟩ := List.any_eq_true.1 ha
      exact absurd ((hs k).1 hk) (by simp)
  | cons q qs ih =>
    intro pre s n hp hs hn
    have hq := h.deal q (by rw [hp]; simp)
    obtain ⟨t, rfl⟩ : ∃ t : Nat, q = (t : Int) := ⟨q.toNat, by omega⟩
    have hst : s t = true := (hs t).2 (List.mem_cons_self ..)
    have hnd := h.once
    rw [hp] at hnd
    have hnq := (List.nodup_append.1 hnd).2.1
    have hpq : ps.getD pre.length 0 = (t : Int) := by rw [hp]; simp [List.getD]
    have hedge : ∀ y ∈ qs, ((t : Int), y) ∈ l := fun y hy => by
      obtain ⟨i, hi, rfl⟩ := List.getElem_of_mem hy
      refine (hl _).2 ⟨pre.length, pre.length + 1 + i, by omega, by rw [hp]; simp; omega, ?_⟩
      rw [hpq, hp]
      simp [List.getD, Nat.add_assoc, Nat.add_comm 1 i, hi]
    have hfree : freeB l s t = true := by
      unfold freeB
      rw [hst, Bool.true_and, Bool.not_eq_true']
      refine List.any_eq_false.2 fun e he => ?_
      obtain ⟨p, r, hpr, hr, rfl⟩ := (hl e).1 he
      intro hh
      simp only [holdB, Bool.and_eq_true, beq_iff_eq] at hh
      have e1 : r = pre.length := nodup_at h.once (x := (t : Int)) (by rw [← hh.1]; simp [List.getD, List.getElem?_eq_getElem hr]) (by rw [hp]; simp)
      have e2 : ps.getD p 0 ∈ pre := by
        rw [hp]
        simp [List.getD, List.getElem?_append_left (show p < pre.length by omega), List.getElem?_eq_getElem (show p < pre.length by omega)]
      have hd := h.deal (ps.getD p 0) (by have h5 : ps.getD p 0 ∈ pre ++ (t : Int) :: qs := List.mem_append_left _ e2; rw [← hp] at h5; exact h5)
      have e3 := (hs _).1 hh.2
      rw [Int.toNat_of_nonneg (by omega)] at e3
      exact (List.nodup_append.1 hnd).2.2 _ e2 _ e3 rfl
    have hnx : nextN l s = t := by
      refine next_hit (by omega) (by omega) hfree fun j hj1 hj => ?_
      cases hf : freeB l s j with
      | false => rfl
      | true =>
        obtain ⟨h1, h2⟩ := free_parts hf
        rcases List.mem_cons.1 ((hs j).1 h1) with e | e
        · omega
        · rw [h2 t (hedge _ e)] at hst; cases hst
    have h0 : nextN l s ≠ 0 := by omega
    have hc := cnt_next h0
    rw [ordF_on hn (any_true (by omega) hst) h0, hnx, ih (pre ++ [(t : Int)]) (setS s t false) (n - 1) (by rw [hp]; simp) (fun k => ?_) (by rw [hnx] at hc; omega)]
    · rfl
    · by_cases e : k = t
      · subst e
        rw [setS_same]
        exact ⟨fun h => (by cases h), fun h => absurd h (List.nodup_cons.1 hnq).1⟩
      · rw [setS_other s false e, hs k, List.mem_cons]
        exact ⟨fun h => h.resolve_left (by omega), .inr⟩
theorem pieces_order {a b : Int} {ps : List Int} (h : Deals1 ps) : sortD (dealsL (piecesL a b ps)) (edgesTo (piecesL a b ps) 36) = some ps := by
  unfold sortD
  rw [orderGo_F, line_ord h (pieces_edges h) ps [] _ 7 rfl (fun t => ?_) (cnt_le _)]
  · rfl
  · unfold leftS
    rw [inB_not.2 (by simp : (t : Int) ∉ ([] : List Int)), Bool.not_false, Bool.and_true, inB_iff]
    exact (pieces_deals h t).symm
end Go.Proofs.YtjcaekhkeobhpahDoor
