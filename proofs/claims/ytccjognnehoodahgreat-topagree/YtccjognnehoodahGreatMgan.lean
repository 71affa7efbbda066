/-
  PROVED HERE: plain facts, with no word of the program: what is done, deal by deal along an order of its deals, is right, done, and has the same ops of each deal.
  Conditions: none.
  PROVED HERE: plain facts, with no word of the program: whether two lists have the same names, and no two that are at odds stand in another order.
  Conditions: none.
  PROVED HERE: plain facts, with no word of the program: what is done, laid along an order of its deals, is right, done, in one piece each; it is the same, but for what may change places, just where the order keeps to the edges; so there is such an order just if the edges have no ring.
  Conditions: none.
  PROVED HERE: plain facts, with no word of the program: what is done of any history, laid along its deals by their numbers, comes one behind the other; such ops are told by numbers (chapter 10) and by locks that are kept (chapter 9) as they are asked, and nobody is aborted; chapter 5's Reads of them and what the runs saw are one, Read by Read.
  Conditions: none.
-/
import Derived.Test.YtccjognnehoodahGreatMgam
import Derived.Test.YtccjognnehoodahGreatMgak
import Derived.Test.YtccjognnehoodahGreatMgal
import Derived.Test.YtccjognnehoodahGreatMgag
namespace Go.Proofs.YtccjognnehoodahGreat

theorem along_cons (d : List Op3) (t : Int) (o : List Int) : alongL d (t :: o) = ofL d t ++ alongL d o := by simp [alongL]
theorem along_mem {d : List Op3} {o : List Int} {x : Op3} : x ∈ alongL d o ↔ x ∈ d ∧ x.1 ∈ o := by
  unfold alongL ofL
  simp only [List.mem_flatMap, List.mem_filter, beq_iff_eq]
  constructor
  · rintro ⟨t, ht, hx, rfl⟩; exact ⟨hx, ht⟩
  · rintro ⟨hx, ht⟩; exact ⟨_, ht, hx, rfl⟩
theorem ofL_ofL (d : List Op3) (u t : Int) : ofL (ofL d u) t = if u = t then ofL d t else [] := by
  unfold ofL
  rw [List.filter_filter]
  split
  · rename_i h
    subst h
    simp
  · rename_i h
    rw [List.filter_eq_nil_iff]
    intro a _ h2
    simp at h2
    exact h (h2.2.symm.trans h2.1)
theorem along_of {d : List Op3} {t : Int} : ∀ {o : List Int}, o.Nodup → ofL (alongL d o) t = if t ∈ o then ofL d t else [] := by
  intro o
  induction o with
  | nil => intro _; rfl
  | cons u o ih =>
    intro hn
    obtain ⟨h1, h2⟩ := List.nodup_cons.1 hn
    rw [along_cons, ofL_append, ofL_ofL, ih h2]
    by_cases e : u = t
    · subst e
      rw [if_pos rfl, if_neg h1, if_pos (List.mem_cons_self ..), List.append_nil]
    · rw [if_neg e, List.nil_append]
      by_cases h3 : t ∈ o
      · rw [if_pos h3, if_pos (List.mem_cons_of_mem _ h3)]
      · rw [if_neg h3, if_neg fun h => ?_]
        rcases List.mem_cons.1 h with h | h
        · exact e h.symm
        · exact h3 h
theorem order_once {d : List Op3} {o : List Int} (hs : sortI o = dealsL d) : o.Nodup := (sort_perm hs).nodup_iff.2 (rise_nodup (dealsL_rise _))
theorem order_mem {d : List Op3} {o : List Int} (hs : sortI o = dealsL d) {t : Int} : t ∈ o ↔ t ∈ dealsL d := (sort_perm hs).mem_iff
theorem along_deals {d : List Op3} {o : List Int} (hs : sortI o = dealsL d) : dealsEq (alongL d o) d := fun t h1 h6 => by
  rw [along_of (order_once hs)]
  split
  · rfl
  · rename_i h
    have h2 : hasB d t = false := by
      cases h3 : hasB d t with
      | false => rfl
      | true => exact absurd ((order_mem hs).2 (mem_deals.2 ⟨h1, h6, h3⟩)) h
    exact (List.length_eq_zero_iff.1 (of_none h2)).symm
theorem calm_of : ∀ {l : List Op3}, (∀ t, Calm (ofL l t)) → Calm l := by
  intro l
  induction l with
  | nil => intro _; exact List.Pairwise.nil
  | cons a r ih =>
    intro h
    refine List.pairwise_cons.2 ⟨fun b hb => ?_, ih fun t => ?_⟩
    · have h1 := h a.1
      rw [ofL_cons, if_pos rfl] at h1
      rintro ⟨e, h2⟩
      exact (List.pairwise_cons.1 h1).1 b (List.mem_filter.2 ⟨hb, by simp [e]⟩) ⟨e, h2⟩
    · have h1 := h t
      rw [ofL_cons] at h1
      split at h1
      · exact (List.pairwise_cons.1 h1).2
      · exact h1
theorem along_chk {d : List Op3} {o : List Int} (hc : (chk d).2 = 0) (hs : sortI o = dealsL d) : (chk (alongL d o)).2 = 0 := by
  obtain ⟨h1, h2, h3⟩ := (chk_iff d).1 hc
  have hr : ∀ x ∈ d, 1 ≤ x.1 ∧ x.1 ≤ 6 := fun x hx => isOp_tx (h2 x hx)
  have hr2 : ∀ x ∈ alongL d o, 1 ≤ x.1 ∧ x.1 ≤ 6 := fun x hx => hr x (along_mem.1 hx).1
  refine (chk_iff _).2 ⟨?_, fun x hx => h2 x (along_mem.1 hx).1, calm_of fun t => ?_⟩
  · rw [len_of_deals hr2 hr (along_deals hs)]; exact h1
  · rw [along_of (order_once hs)]
    split
    · exact h3.sublist List.filter_sublist
    · exact List.Pairwise.nil
theorem deal_in {d : List Op3} (hd : ∀ x ∈ d, 1 ≤ x.1 ∧ x.1 ≤ 6) {o : List Int} (hs : sortI o = dealsL d) {x : Op3} (hx : x ∈ d) : x ∈ alongL d o :=
  along_mem.2 ⟨hx, (order_mem hs).2 (mem_deals.2 ⟨(hd x hx).1, (hd x hx).2, hasB_iff.2 ⟨x, hx, rfl⟩⟩)⟩
theorem Doing.along {d : List Op3} (h : Doing d) (hc : (chk d).2 = 0) {o : List Int} (hs : sortI o = dealsL d) : Doing (alongL d o) where
  calm := ((chk_iff _).1 (along_chk hc hs)).2.2
  deal := fun x hx => h.deal x (along_mem.1 hx).1
  ends := fun x hx => by
    obtain ⟨p, hp, h1, h2⟩ := h.ends x (along_mem.1 hx).1
    exact ⟨p, deal_in h.deal hs hp, h1, h2⟩
theorem Doing.done {s : List Op3} (h : Doing s) : doneL s = s := by
  unfold doneL
  refine List.filter_eq_self.2 fun x hx => ?_
  obtain ⟨p, hp, h1, h2⟩ := h.ends x hx
  have := h.deal x hx
  unfold commIn
  exact List.any_eq_true.2 ⟨p, hp, by simp [h1, h2]; omega⟩
end Go.Proofs.YtccjognnehoodahGreat

namespace Go.Proofs.YtccjognnehoodahGreat

def namedB (h g : List Op3) : Bool := (List.range h.length).all fun i => (List.range g.length).any fun k => nameAt g k == nameAt h i
theorem namedB_iff (h g : List Op3) : namedB h g = true ↔ Named h g := by
  simp [namedB, Named]
/-- The program's answer. -/
def sameB (h g : List Op3) : Bool := (h.length == g.length && namedB h g) && !(pairsL h).any (turnedB h g)
theorem sameB_no {h g : List Op3} (hn : ¬ (h.length = g.length ∧ Named h g)) : sameB h g = false := by
  have : (h.length == g.length && namedB h g) = false := by
    cases hb : (h.length == g.length && namedB h g) with
    | false => rfl
    | true =>
      simp at hb
      exact absurd ⟨hb.1, (namedB_iff h g).1 hb.2⟩ hn
  simp [sameB, this]
theorem sameB_yes {h g : List Op3} (hn : h.length = g.length ∧ Named h g) : sameB h g = !(pairsL h).any (turnedB h g) := by
  simp [sameB, hn.1, (namedB_iff h g).2 hn.2]
end Go.Proofs.YtccjognnehoodahGreat

namespace Go.Proofs.YtccjognnehoodahGreat

theorem pair_sub : ∀ {o : List Int} {i j : Nat} {x y : Int}, i < j → o[i]? = some x → o[j]? = some y → [x, y].Sublist o := by
  intro o
  induction o with
  | nil => intro i j x y _ h _; simp at h
  | cons a r ih =>
    intro i j x y hij hi hj
    cases j with
    | zero => omega
    | succ j =>
      simp only [List.getElem?_cons_succ] at hj
      cases i with
      | zero =>
        simp only [List.getElem?_cons_zero, Option.some.injEq] at hi
        subst hi
        exact List.Sublist.cons_cons _ (List.singleton_sublist.2 (List.mem_of_getElem? hj))
      | succ i =>
        simp only [List.getElem?_cons_succ] at hi
        exact (ih (by omega) hi hj).cons _
theorem sub_pair : ∀ {o : List Int} {x y : Int}, [x, y].Sublist o → ∃ i j : Nat, i < j ∧ o[i]? = some x ∧ o[j]? = some y := by
  intro o
  induction o with
  | nil => intro x y h; cases h
  | cons a r ih =>
    intro x y h
    cases h with
    | cons _ h =>
      obtain ⟨i, j, h1, h2, h3⟩ := ih h
      exact ⟨i + 1, j + 1, by omega, by simpa using h2, by simpa using h3⟩
    | cons_cons _ h =>
      obtain ⟨j, hj⟩ := List.getElem?_of_mem (List.singleton_sublist.1 h)
      exact ⟨0, j + 1, by omega, by simp, by simpa using hj⟩
theorem pair_not {o : List Int} (h : o.Nodup) {x y : Int} (h1 : [x, y].Sublist o) (h2 : [y, x].Sublist o) : False := by
  obtain ⟨i, j, hij, hi, hj⟩ := sub_pair h1
  obtain ⟨k, m, hkm, hk, hm⟩ := sub_pair h2
  have := nodup_at h hi hm
  have := nodup_at h hj hk
  omega
theorem opAt_left {a b : List Op3} {i : Nat} (h : i < a.length) : opAt (a ++ b) i = opAt a i := by
  unfold opAt
  simp [List.getD, List.getElem?_append_left h]
theorem opAt_right {a b : List Op3} {i : Nat} (h : a.length ≤ i) : opAt (a ++ b) i = opAt b (i - a.length) := by
  unfold opAt
  simp [List.getD, List.getElem?_append_right h]
/-- Of two ops of unlike deals, along an order, the first one's deal comes first. -/
theorem along_pos {d : List Op3} : ∀ {o : List Int} {i j : Nat}, i < j → j < (alongL d o).length → (opAt (alongL d o) i).1 ≠ (opAt (alongL d o) j).1 → [(opAt (alongL d o) i).1, (opAt (alongL d o) j).1].Sublist o := by
  intro o
  induction o with
  | nil => intro i j _ hj _; simp [alongL] at hj
  | cons t o ih =>
    intro i j hij hj hne
    have hA : ∀ k, k < (ofL d t).length → (opAt (ofL d t) k).1 = t := fun k hk => by
      have := (List.mem_filter.1 (opAt_mem (l := ofL d t) hk)).2
      simpa using this
    rw [along_cons] at hj hne ⊢
    by_cases hi : i < (ofL d t).length
    · rw [opAt_left hi, hA i hi] at hne ⊢
      by_cases hj2 : j < (ofL d t).length
      · rw [opAt_left hj2, hA j hj2] at hne
        exact absurd rfl hne
      · rw [opAt_right (by omega)] at hne ⊢
        rw [List.length_append] at hj
        have hm := (along_mem.1 (opAt_mem (l := alongL d o) (i := j - (ofL d t).length) (by omega))).2
        exact List.Sublist.cons_cons _ (List.singleton_sublist.2 hm)
    · rw [opAt_right (by omega), opAt_right (by omega)] at hne ⊢
      rw [List.length_append] at hj
      exact (ih (by omega) (by omega) hne).cons _
theorem along_ser {d : List Op3} {o : List Int} (hd : Doing (alongL d o)) (ho : o.Nodup) : serB (alongL d o) = true := by
  have key : ∀ n, n ≤ (alongL d o).length → badTo (alongL d o) n = 0 := by
    intro n
    induction n with
    | zero => intro _; rfl
    | succ n ih =>
      intro hn
      by_cases hz : n = 0
      · subst hz; exact badTo_one _
      · rw [badTo_no ?_]
        · exact ih (by omega)
        · cases hb : badAt (alongL d o) n with
          | false => rfl
          | true =>
            unfold badAt at hb
            simp only [Bool.and_eq_true, bne_iff_ne] at hb
            obtain ⟨h1, h2⟩ := hb
            have hlt : n - 1 < (alongL d o).length := by omega
            obtain ⟨p, hp, e1, e2⟩ := hd.ends _ (opAt_mem hlt)
            obtain ⟨j, hj, rfl⟩ := List.getElem_of_mem hp
            rw [← opAt_get hj] at e1 e2
            rcases Nat.lt_trichotomy j (n - 1) with h3 | h3 | h3
            · exact absurd e1 (calm_at hd.calm h3 hlt e2)
            · subst h3; exact absurd e2 h2
            · have hjn : j ≠ n := fun e => by subst e; exact h1 e1
              have s1 := along_pos (d := d) (o := o) (show n - 1 < n by omega) (by omega) (fun e => h1 e.symm)
              have s2 := along_pos (d := d) (o := o) (show n < j by omega) hj (fun e => h1 (e.trans e1))
              rw [e1] at s2
              exact (pair_not ho s1 s2).elim
  unfold serB
  rw [key _ (Nat.le_refl _)]; rfl
theorem odd_sym (a b : Op3) : oddB a b = oddB b a := by
  unfold oddB
  have h1 : (a.1 != b.1) = (b.1 != a.1) := by simp [bne, Bool.beq_comm]
  have h2 : (a.2.2 == b.2.2) = (b.2.2 == a.2.2) := Bool.beq_comm
  rw [h1, h2, Bool.or_comm]
theorem odd_deal {a b : Op3} (h : oddB a b = true) : a.1 ≠ b.1 := by
  unfold oddB at h
  simp at h
  exact h.1
theorem edge_mem {d : List Op3} (hd : ∀ x ∈ d, 1 ≤ x.1 ∧ x.1 ≤ 6) {i j : Nat} (hij : i < j) (hj : j < d.length) (h : oddB (opAt d i) (opAt d j) = true) : ((opAt d i).1, (opAt d j).1) ∈ edgesTo d 36 := by
  unfold edgesTo
  have h1 := hd _ (opAt_mem (l := d) (i := i) (by omega))
  have h2 := hd _ (opAt_mem hj)
  rw [List.take_of_length_le (by simp [allE]), List.mem_filter]
  refine ⟨mem_allE h1.1 h1.2 h2.1 h2.2, List.any_eq_true.2 ⟨((i : Int), (j : Int)), mem_pairs.2 ⟨i, j, hij, hj, h, rfl⟩, ?_⟩⟩
  simp [edgeOf]
theorem mem_edge {d : List Op3} {e : Edge2} (h : e ∈ edgesTo d 36) : ∃ i j : Nat, i < j ∧ j < d.length ∧ oddB (opAt d i) (opAt d j) = true ∧ e = ((opAt d i).1, (opAt d j).1) := by
  have h1 := (List.mem_filter.1 h).2
  unfold leadsB at h1
  obtain ⟨p, hp, h2⟩ := List.any_eq_true.1 h1
  obtain ⟨i, j, hij, hj, ho, rfl⟩ := mem_pairs.1 hp
  refine ⟨i, j, hij, hj, ho, ?_⟩
  have h3 : edgeOf d ((i : Int), (j : Int)) = e := by simpa using h2
  rw [← h3]
  simp [edgeOf]
theorem spot_at {h g : List Op3} {i k : Nat} (hk : k < g.length) (hn : nameAt g k = nameAt h i) : spot h g i = k := by
  unfold spot
  rw [place_name hk hn]; rfl
theorem name_op {h g : List Op3} {i k : Nat} (hn : nameAt g k = nameAt h i) : opAt g k = opAt h i := congrArg Prod.fst hn
/-- An order that keeps to the edges. -/
def Keeps (l : List Edge2) (o : List Int) : Prop := ∀ e ∈ l, [e.1, e.2].Sublist o
theorem same_along {d : List Op3} (hd : ∀ x ∈ d, 1 ≤ x.1 ∧ x.1 ≤ 6) {o : List Int} (hs : sortI o = dealsL d) (hk : Keeps (edgesTo d 36) o) : sameB (alongL d o) d = true := by
  have hq := along_deals hs
  have hr2 : ∀ x ∈ alongL d o, 1 ≤ x.1 ∧ x.1 ≤ 6 := fun x hx => hd x (along_mem.1 hx).1
  have hn := named_of_deals hr2 hq
  rw [sameB_yes ⟨len_of_deals hr2 hd hq, hn⟩, Bool.not_eq_true', List.any_eq_false]
  intro e he
  obtain ⟨i, j, hij, hj, ho, rfl⟩ := mem_pairs.1 he
  obtain ⟨k, k1, k2⟩ := hn i (by omega)
  obtain ⟨m, m1, m2⟩ := hn j hj
  unfold turnedB
  simp only [Int.toNat_natCast, spot_at k1 k2, spot_at m1 m2, decide_eq_true_eq]
  intro hmk
  have hne := odd_deal ho
  have s1 := along_pos (d := d) (o := o) hij hj hne
  have s2 := hk _ (edge_mem hd hmk k1 (by rw [name_op k2, name_op m2, odd_sym]; exact ho))
  simp only [name_op k2, name_op m2] at s2
  exact pair_not (order_once hs) s1 s2
theorem keeps_same {d : List Op3} (hd : ∀ x ∈ d, 1 ≤ x.1 ∧ x.1 ≤ 6) {o : List Int} (hs : sortI o = dealsL d) (h : sameB (alongL d o) d = true) : Keeps (edgesTo d 36) o := by
  have hq := along_deals hs
  have hr2 : ∀ x ∈ alongL d o, 1 ≤ x.1 ∧ x.1 ≤ 6 := fun x hx => hd x (along_mem.1 hx).1
  have hn := named_of_deals hr2 hq
  have hl := len_of_deals hr2 hd hq
  rw [sameB_yes ⟨hl, hn⟩, Bool.not_eq_true', List.any_eq_false] at h
  have hback := named_of_deals hd (fun t a b => (hq t a b).symm)
  intro e he
  obtain ⟨m, k, hmk, hk, ho, rfl⟩ := mem_edge he
  obtain ⟨i, i1, i2⟩ := hback m (by omega)
  obtain ⟨j, j1, j2⟩ := hback k hk
  have hne := odd_deal ho
  rw [← name_op i2, ← name_op j2] at hne
  simp only [← name_op i2, ← name_op j2]
  rcases Nat.lt_trichotomy i j with h1 | h1 | h1
  · exact along_pos h1 j1 hne
  · subst h1; exact absurd rfl hne
  · have := h ((j : Int), (i : Int)) (mem_pairs.2 ⟨j, i, h1, i1, by rw [name_op i2, name_op j2, odd_sym]; exact ho, rfl⟩)
    unfold turnedB at this
    simp only [Int.toNat_natCast, spot_at (show m < d.length by omega) i2.symm, spot_at hk j2.symm, decide_eq_true_eq] at this
    exact absurd hmk this
/-- Where it goes around no order keeps to the edges. -/
theorem none_keeps {l : List Edge2} (hr : Right l) (hn : orderL l = none) {o : List Int} (ho : o.Nodup) (hd : ∀ x ∈ o, 1 ≤ x ∧ x ≤ 6) : ¬ Keeps l o := fun hk => by
  rcases graph_either hr with ⟨q, hq, _⟩ | ⟨_, r, _, hring, h1, _⟩
  · rw [hn] at hq; cases hq
  · have hio : IsOrder l o := ⟨fun x hx => ⟨x.toNat, by have := hd x hx; omega, by have := hd x hx; omega, by have := hd x hx; omega⟩, ho, fun x y he => sub_pair (hk _ he)⟩
    exact no_round hio _ (hring.round 0 (by omega))
theorem ordF_once (l : List Edge2) : ∀ (n : Nat) (s : Set7) (o : List Int), cntS s ≤ n → (∀ k, s k = true → 1 ≤ k ∧ k ≤ 6) → ordF l n s = some o → o.Nodup := by
  intro n
  induction n with
  | zero =>
    intro s o hn _ h
    rw [ordF_end (cnt_zero (s := s) (by omega))] at h
    rw [← Option.some.inj h]; exact List.nodup_nil
  | succ n ih =>
    intro s o hn hs h
    cases ha : anyS s with
    | false => rw [ordF_end ha] at h; rw [← Option.some.inj h]; exact List.nodup_nil
    | true =>
      by_cases h0 : nextN l s = 0
      · rw [ordF_stop hn ha h0] at h; cases h
      · rw [ordF_on hn ha h0] at h
        obtain ⟨r, hr, e⟩ := Option.map_eq_some_iff.1 h
        have hc := cnt_next h0
        have hs2 : ∀ k, setS s (nextN l s) false k = true → 1 ≤ k ∧ k ≤ 6 := fun k hk => by
          by_cases e2 : k = nextN l s
          · rw [e2, setS_same] at hk; cases hk
          · rw [setS_other s false e2] at hk; exact hs k hk
        rw [← e]
        refine List.nodup_cons.2 ⟨fun hm => ?_, ih _ r (by omega) hs2 hr⟩
        obtain ⟨t, ht, h2⟩ := (ordF_mem l _ _ r (by omega) hs2 hr _).1 hm
        have : t = nextN l s := by omega
        rw [this, setS_same] at h2; cases h2
theorem weave_sub (b : List Int) : ∀ fr, b.Sublist (weaveL b fr) := by
  induction b with
  | nil => intro fr; exact List.nil_sublist _
  | cons a r ih =>
    intro fr
    exact (((ih _).cons_cons a)).trans (List.sublist_append_right _ _)
/-- The program's order is one of all deals that are done, and keeps to the edges. -/
theorem serOrd_some {d : List Op3} (hd : ∀ x ∈ d, 1 ≤ x.1 ∧ x.1 ≤ 6) {o : List Int} (h : serOrd d = some o) : sortI o = dealsL d ∧ Keeps (edgesTo d 36) o := by
  have h1 := serOrd_sort hd
  rw [h] at h1
  unfold sortD at h1
  rw [orderGo_F] at h1
  obtain ⟨q, hq, e⟩ := Option.map_eq_some_iff.1 h1
  simp only [List.nil_append] at e
  subst e
  have hls : ∀ t : Nat, leftS (dealsL d) [] t = inB (dealsL d) (t : Int) := fun t => by
    unfold leftS
    rw [inB_not.2 (by simp : (t : Int) ∉ ([] : List Int))]
    simp
  have hs : ∀ k, leftS (dealsL d) [] k = true → 1 ≤ k ∧ k ≤ 6 := fun k hk => by
    rw [hls, inB_iff] at hk
    have := mem_deals.1 hk
    omega
  refine ⟨sort_of_mem (ordF_once _ 7 _ q (cnt_le _) hs hq) (dealsL_rise d) fun x => ?_, fun e he => ?_⟩
  · rw [ordF_mem _ 7 _ q (cnt_le _) hs hq]
    constructor
    · rintro ⟨t, rfl, ht⟩
      rw [hls, inB_iff] at ht; exact ht
    · intro hx
      have := mem_deals.1 hx
      exact ⟨x.toNat, by omega, by rw [hls, Int.toNat_of_nonneg (by omega)]; exact inB_iff.2 hx⟩
  · unfold serOrd at h
    obtain ⟨b, hb, e2⟩ := Option.map_eq_some_iff.1 h
    have hr := edges_right d 36
    rcases order_either hr with ⟨b', hb', hio⟩ | ⟨hb', _⟩
    · rw [hb] at hb'
      cases hb'
      obtain ⟨x, y, rfl, _, _⟩ := hr.nat he
      obtain ⟨i, j, hij, hi, hj⟩ := hio.back x y he
      rw [← e2]
      exact (pair_sub hij hi hj).trans (weave_sub b _)
    · rw [hb] at hb'; cases hb'
theorem serOrd_none {d : List Op3} : serOrd d = none ↔ orderL (edgesTo d 36) = none := by unfold serOrd; simp
/-- Serial just if no ring. -/
theorem just_some {d : List Op3} (hd : Doing d) (hc : (chk d).2 = 0) {o : List Int} (h : serOrd d = some o) : sortI o = dealsL d ∧ (chk (alongL d o)).2 = 0 ∧ doneL (alongL d o) = alongL d o ∧ sameB (alongL d o) d = true ∧ serB (alongL d o) = true := by
  obtain ⟨h1, h2⟩ := serOrd_some hd.deal h
  have h3 := hd.along hc h1
  exact ⟨h1, along_chk hc h1, h3.done, same_along hd.deal h1 h2, along_ser h3 (order_once h1)⟩
theorem just_none {d : List Op3} (hd : Doing d) (h : serOrd d = none) {p : List Int} (hp : sortI p = dealsL d) : sameB (alongL d p) d = false := by
  cases hs : sameB (alongL d p) d with
  | false => rfl
  | true => exact absurd (keeps_same hd.deal hp hs) (none_keeps (edges_right d 36) (serOrd_none.1 h) (order_once hp) fun x hx => order_deal hp hx)
/-- Around a ring there are two at least. -/
theorem edge_two {d : List Op3} {x : Int} : ((x, x) : Edge2) ∉ edgesTo d 36 := fun h => by
  obtain ⟨i, j, _, _, ho, e⟩ := mem_edge h
  injection e with e1 e2
  exact odd_deal ho (e1.symm.trans e2)
end Go.Proofs.YtccjognnehoodahGreat

namespace Go.Proofs.YtccjognnehoodahGreat

theorem sort_rise {d : List Int} (h : d.Pairwise (· < ·)) : sortI d = d := (sort_iff h).2 ⟨rfl, rise_uniq _ _ (putsL_rise d) h fun _ => mem_puts⟩
theorem up_along {h : List Op3} (hc : (chk h).2 = 0) : UpRun (alongL (doneL h) (dealsL (doneL h))) := by
  have hs := sort_rise (dealsL_rise (doneL h))
  have hd := (doing_done hc).along (chk_done hc) hs
  refine ⟨along_chk (chk_done hc) hs, fun i j hij hj => ?_, fun o ho => ?_⟩
  · by_cases e : (opAt (alongL (doneL h) (dealsL (doneL h))) i).1 = (opAt (alongL (doneL h) (dealsL (doneL h))) j).1
    · rw [e]; exact Int.le_refl _
    · have hlt : i < j := by
        rcases Nat.lt_or_ge i j with hl | hg
        · exact hl
        · exact absurd (by rw [show i = j by omega]) e
      have h1 := (dealsL_rise (doneL h)).sublist (along_pos hlt hj e)
      have h2 := (List.pairwise_cons.1 h1).1 _ (List.mem_singleton.2 rfl)
      omega
  · obtain ⟨p, hp, h1, h2⟩ := hd.ends o ho
    exact ⟨p, hp, h1, h2⟩
theorem up_deals_along (h : List Op3) : dealsL (alongL (doneL h) (dealsL (doneL h))) = dealsL (doneL h) := by
  refine rise_uniq _ _ (dealsL_rise _) (dealsL_rise _) fun x => ?_
  rw [mem_deals, hasB_iff]
  constructor
  · rintro ⟨_, _, o, ho, rfl⟩
    exact (along_mem.1 ho).2
  · intro hx
    obtain ⟨h1, h2, h3⟩ := mem_deals.1 hx
    obtain ⟨o, ho, e⟩ := hasB_iff.1 h3
    exact ⟨h1, h2, o, along_mem.2 ⟨ho, by rw [e]; exact hx⟩, e⟩
/-- All of it is done. -/
theorem up_done {l : List Op3} (U : UpRun l) : doneL l = l := by
  unfold doneL
  refine List.filter_eq_self.2 fun o ho => ?_
  obtain ⟨p, hp, h1, h2⟩ := U.ends o ho
  have h3 := isOp_tx (((chk_iff l).1 U.chk).2.1 o ho)
  unfold commIn
  rw [List.any_eq_true]
  refine ⟨p, hp, ?_⟩
  simp [h2]
  omega
theorem take_opAt {l : List Op3} {k : Nat} (hk : k < l.length) : l.take (k + 1) = l.take k ++ [opAt l k] := by rw [List.take_succ_eq_append_getElem hk, opAt_at hk]
/-- By numbers. -/
theorem up_stamp {l : List Op3} (U : UpRun l) (leave : Bool) : ∀ k, k ≤ l.length → let s := (l.take k).foldl (stepS leave) stm0; (∀ x i, k ≤ i → i < l.length → s.rd x ≤ (opAt l i).1 ∧ s.wr x ≤ (opAt l i).1) ∧ (∀ d, s.out d = false) ∧ s.vict = [] ∧ s.told = l.take k := by
  intro k
  induction k with
  | zero =>
    intro _
    refine ⟨fun x i _ hi => ?_, fun _ => rfl, rfl, rfl⟩
    have := (isOp_range (((chk_iff l).1 U.chk).2.1 _ (opAt_mem hi))).1
    constructor
    · show (0 : Int) ≤ _; omega
    · show (0 : Int) ≤ _; omega
  | succ k ih =>
    intro hk
    obtain ⟨h1, h2, h3, h4⟩ := ih (by omega)
    have hk' : k < l.length := by omega
    rw [take_opAt hk', List.foldl_append]
    simp only [List.foldl_cons, List.foldl_nil]
    generalize (l.take k).foldl (stepS leave) stm0 = s at *
    have hb := h1 (opAt l k).2.2 k (Nat.le_refl _) hk'
    have hup : ∀ i, k + 1 ≤ i → i < l.length → (opAt l k).1 ≤ (opAt l i).1 := fun i a b => U.up k i (by omega) b
    obtain ⟨⟨t, a, x⟩, ho⟩ : ∃ o, opAt l k = o := ⟨_, rfl⟩
    rw [ho] at hb hup ⊢
    simp only at hb hup
    have hlate : lateS s (t, a, x) = false := by unfold lateS; simp; omega
    have hbad : badS leave s (t, a, x) = false := by
      unfold badS
      rw [hlate]
      simp
      intro _ _
      omega
    have hmax : ∀ y, maxI y t ≤ t ∨ maxI y t = y := fun y => by unfold maxI; split; exact .inl (Int.le_refl _); exact .inr rfl
    unfold stepS
    simp only
    rw [if_neg (by rw [h2]; decide), if_neg (by rw [hbad]; decide)]
    split
    · refine ⟨fun y i hi1 hi2 => ⟨?_, (h1 y i (by omega) hi2).2⟩, h2, h3, by rw [h4]⟩
      show setF s.rd x (maxI (s.rd x) t) y ≤ _
      unfold setF
      split
      · have h5 := hup i hi1 hi2
        have h6 := (h1 x i (by omega) hi2).1
        rcases hmax (s.rd x) with h7 | h7
        · omega
        · omega
      · exact (h1 y i (by omega) hi2).1
    · split
      · rw [if_neg (by rw [hlate]; decide)]
        refine ⟨fun y i hi1 hi2 => ⟨(h1 y i (by omega) hi2).1, ?_⟩, h2, h3, by rw [h4]⟩
        show setF s.wr x t y ≤ _
        unfold setF
        split
        · exact hup i hi1 hi2
        · exact (h1 y i (by omega) hi2).2
      · exact ⟨fun y i hi1 hi2 => h1 y i (by omega) hi2, h2, h3, by rw [h4]⟩
theorem up_stampR {l : List Op3} (U : UpRun l) (leave : Bool) : (stampR leave l).vict = [] ∧ (stampR leave l).told = l := by
  have := up_stamp U leave l.length (Nat.le_refl _)
  rw [List.take_length] at this
  exact ⟨this.2.2.1, this.2.2.2⟩
/-- By locks that are kept. -/
theorem own_ask {l : List Op3} {t x m : Int} (h : ∀ y ∈ l, y.1 = t) (h1 : 1 ≤ t ∧ t ≤ 6) (h2 : 1 ≤ x ∧ x ≤ 6) (h3 : m = 1 ∨ m = 2) : ∃ l', askT (l, []) (t, x, m) = ((true, 0), (l', [])) ∧ ∀ y ∈ l', y.1 = t := by
  unfold askT
  rw [if_neg (by rw [lock_of h1 h2 h3]; decide), if_neg (by simp [waitsB])]
  split
  · exact ⟨l, rfl, h⟩
  · rw [if_pos (by
      rw [Bool.and_eq_true]
      refine ⟨?_, rfl⟩
      unfold clearL
      rw [List.all_eq_true]
      intro y hy
      have := h y hy
      unfold lodd
      simp [this])]
    refine ⟨_, rfl, fun y hy => ?_⟩
    rcases mem_holdL hy with rfl | hy
    · rfl
    · exact h y hy
theorem up_strict {l : List Op3} (U : UpRun l) (way : Int) : ∀ k, k ≤ l.length → let r := (l.take k).foldl (comeR way) run0; (∃ lk, r.tab = (lk, []) ∧ ∀ y ∈ lk, k < l.length ∧ y.1 = (opAt l k).1) ∧ (∀ d, r.waits d = false) ∧ (∀ d, r.out d = false) ∧ r.vict = [] ∧ r.told = l.take k := by
  intro k
  induction k with
  | zero => intro _; exact ⟨⟨[], rfl, fun y hy => by cases hy⟩, fun _ => rfl, fun _ => rfl, rfl, rfl⟩
  | succ k ih =>
    intro hk
    obtain ⟨⟨lk, h1, h1b⟩, h2, h3, h4, h5⟩ := ih (by omega)
    have hk' : k < l.length := by omega
    rw [take_opAt hk', List.foldl_append]
    simp only [List.foldl_cons, List.foldl_nil]
    generalize (l.take k).foldl (comeR way) run0 = r at *
    have hop := ((chk_iff l).1 U.chk).2.1 _ (opAt_mem hk')
    have h6 := isOp_range hop
    have hkd := isOp_kinds hop
    have hnext : ¬ (3 ≤ (opAt l k).2.1) → k + 1 < l.length ∧ (opAt l (k + 1)).1 = (opAt l k).1 := fun h3 => by
      obtain ⟨j, hj1, hj2, hj3, hj4⟩ := U.end_at hk'
      have hlt : k < j := by
        rcases Nat.lt_or_ge k j with a | a
        · exact a
        · rw [show j = k by omega] at hj4; omega
      refine ⟨by omega, ?_⟩
      have a := U.up k (k + 1) (by omega) (by omega)
      have b := U.up (k + 1) j (by omega) hj2
      omega
    have hpos := isOp_pos hop
    obtain ⟨⟨t, a, x⟩, ho⟩ : ∃ o, opAt l k = o := ⟨_, rfl⟩
    rw [ho] at h1b h6 hkd hnext hpos hop ⊢
    simp only at h1b h6 hkd hnext hpos
    have hx6 : a = 1 ∨ a = 2 → x ≤ 6 := fun hh => by
      rcases hh with rfl | rfl
      · simp [isOpB, endsB] at hop; omega
      · simp [isOpB, endsB] at hop; omega
    unfold comeR
    simp only
    rw [if_neg (by rw [h3]; decide), if_neg (by rw [h2]; decide)]
    have e41 : doN way 41 r (t, a, x) = doW way (doN way 40) r (t, a, x) := rfl
    rw [e41]
    unfold doW
    simp only
    by_cases ha : 3 ≤ a
    · rw [if_pos ha]
      unfold freeR
      simp only
      rw [h1, free_all fun y hy => (h1b y hy).2]
      exact ⟨⟨[], rfl, fun y hy => by cases hy⟩, h2, h3, h4, by rw [← h5]; rfl⟩
    · rw [if_neg ha]
      have ha12 : a = 1 ∨ a = 2 := by omega
      obtain ⟨l', e, hl'⟩ := own_ask (x := x) (m := a) (fun y hy => (h1b y hy).2) h6 ⟨hpos ha12, hx6 ha12⟩ ha12
      rw [h1, e, if_pos rfl]
      refine ⟨⟨l', rfl, fun y hy => ⟨(hnext ha).1, ?_⟩⟩, h2, h3, h4, by rw [← h5]⟩
      rw [(hnext ha).2]
      exact hl' y hy
theorem up_strictR {l : List Op3} (U : UpRun l) (way : Int) : (strictR way l).vict = [] ∧ (strictR way l).told = l := by
  have := up_strict U way l.length (Nat.le_refl _)
  rw [List.take_length] at this
  exact ⟨this.2.2.2.1, this.2.2.2.2⟩
/-- Read by Read. -/
theorem reads_one (l : List Op3) : ∀ k, k ≤ l.length → (readsS l k).length = (readsTo l k).length ∧ ∀ i, i < (readsTo l k).length → (opAt (readsS l k) i).2.2 = ((readsTo l k).getD i (0, 0)).2 ∧ ∃ p : Nat, ((readsTo l k).getD i (0, 0)).1 = p ∧ p < l.length ∧ (opAt (readsS l k) i).2.1 = (opAt l p).2.2 := by
  intro k
  induction k with
  | zero => intro _; exact ⟨rfl, fun i hi => by cases hi⟩
  | succ k ih =>
    intro hk
    obtain ⟨h1, h2⟩ := ih (by omega)
    unfold readsS readsTo
    split
    · rename_i hr
      refine ⟨by rw [List.length_append, List.length_append, h1]; rfl, fun i hi => ?_⟩
      rw [List.length_append, List.length_singleton] at hi
      rcases Nat.lt_or_ge i (readsTo l k).length with a | a
      · have e1 : opAt (readsS l k ++ [((opAt l k).1, (opAt l k).2.2, (lastW l k (opAt l k).2.2).1.1)]) i = opAt (readsS l k) i := opAt_left (by omega)
        have e2 : (readsTo l k ++ [((k : Int), (lastW l k (opAt l k).2.2).1.1)]).getD i (0, 0) = (readsTo l k).getD i (0, 0) := by simp [List.getD, List.getElem?_append_left a]
        rw [e1, e2]
        exact h2 i a
      · obtain rfl : i = (readsTo l k).length := by omega
        have e1 : opAt (readsS l k ++ [((opAt l k).1, (opAt l k).2.2, (lastW l k (opAt l k).2.2).1.1)]) (readsTo l k).length = ((opAt l k).1, (opAt l k).2.2, (lastW l k (opAt l k).2.2).1.1) := by rw [← h1]; simp [opAt, List.getD]
        have e2 : (readsTo l k ++ [((k : Int), (lastW l k (opAt l k).2.2).1.1)]).getD (readsTo l k).length (0, 0) = ((k : Int), (lastW l k (opAt l k).2.2).1.1) := by simp [List.getD]
        rw [e1, e2]
        exact ⟨rfl, k, rfl, by omega, rfl⟩
    · exact ⟨h1, h2⟩
end Go.Proofs.YtccjognnehoodahGreat
