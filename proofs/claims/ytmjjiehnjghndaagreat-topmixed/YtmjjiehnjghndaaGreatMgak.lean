/-
  PROVED HERE: plain facts, with no word of the program: whether two lists have the same names, and no two that are at odds stand in another order.
  Conditions: none.
  (Of these, what the claim wants: the rest was left out.)
  PROVED HERE: plain facts, with no word of the program: what is done, laid along an order of its deals, is right, done, in one piece each; it is the same, but for what may change places, just where the order keeps to the edges; so there is such an order just if the edges have no ring.
  Conditions: none.
  (Of these, what the claim wants: the rest was left out.)
-/
import Derived.Test.YtmjjiehnjghndaaGreatMgaj
import Derived.Test.YtmjjiehnjghndaaGreatMgai
namespace Go.Proofs.YtmjjiehnjghndaaGreat

def namedB (h g : List Op3) : Bool := (List.range h.length).all fun i => (List.range g.length).any fun k => nameAt g k == nameAt h i
theorem namedB_iff (h g : List Op3) : namedB h g = true ↔ Named h g := by
  simp [namedB, Named]
/-- The program's answer. -/
def sameB (h g : List Op3) : Bool := (h.length == g.length && namedB h g) && !(pairsL h).any (turnedB h g)
theorem sameB_yes {h g : List Op3} (hn : h.length = g.length ∧ Named h g) : sameB h g = !(pairsL h).any (turnedB h g) := by
  simp [sameB, hn.1, (namedB_iff h g).2 hn.2]
end Go.Proofs.YtmjjiehnjghndaaGreat

namespace Go.Proofs.YtmjjiehnjghndaaGreat

theorem pair_sub : ∀ {o : List Int} {i j : Nat} {x y : Int}, i < j → o[i]? = some x → o[j]? = some y → [x, y].Sublist o := by
  intro o
  induction o with
  | nil => intro i j x y _ h _; simp at h
  | cons a r ih =>
    intro i j x y hij hi hj
    cases j with
    | zero => omega
    | succ j =>
      simp only [List.getElem?_cons_succ] at hj
      cases i with
      | zero =>
        simp only [List.getElem?_cons_zero, Option.some.injEq] at hi
        subst hi
        exact List.Sublist.cons_cons _ (List.singleton_sublist.2 (List.mem_of_getElem? hj))
      | succ i =>
        simp only [List.getElem?_cons_succ] at hi
        exact (ih (by omega) hi hj).cons _
theorem sub_pair : ∀ {o : List Int} {x y : Int}, [x, y].Sublist o → ∃ i j : Nat, i < j ∧ o[i]? = some x ∧ o[j]? = some y := by
  intro o
  induction o with
  | nil => intro x y h; cases h
  | cons a r ih =>
    intro x y h
    cases h with
    | cons _ h =>
      obtain ⟨i, j, h1, h2, h3⟩ := ih h
      exact ⟨i + 1, j + 1, by omega, by simpa using h2, by simpa using h3⟩
    | cons_cons _ h =>
      obtain ⟨j, hj⟩ := List.getElem?_of_mem (List.singleton_sublist.1 h)
      exact ⟨0, j + 1, by omega, by simp, by simpa using hj⟩
theorem pair_not {o : List Int} (h : o.Nodup) {x y : Int} (h1 : [x, y].Sublist o) (h2 : [y, x].Sublist o) : False := by
  obtain ⟨i, j, hij, hi, hj⟩ := sub_pair h1
  obtain ⟨k, m, hkm, hk, hm⟩ := sub_pair h2
  have := nodup_at h hi hm
  have := nodup_at h hj hk
  omega
theorem opAt_left {a b : List Op3} {i : Nat} (h : i < a.length) : opAt (a ++ b) i = opAt a i := by
  unfold opAt
  simp [List.getD, List.getElem?_append_left h]
theorem opAt_right {a b : List Op3} {i : Nat} (h : a.length ≤ i) : opAt (a ++ b) i = opAt b (i - a.length) := by
  unfold opAt
  simp [List.getD, List.getElem?_append_right h]
/-- Of two ops of unlike deals, along an order, the first one's deal comes first. -/
theorem along_pos {d : List Op3} : ∀ {o : List Int} {i j : Nat}, i < j → j < (alongL d o).length → (opAt (alongL d o) i).1 ≠ (opAt (alongL d o) j).1 → [(opAt (alongL d o) i).1, (opAt (alongL d o) j).1].Sublist o := by
  intro o
  induction o with
  | nil => intro i j _ hj _; simp [alongL] at hj
  | cons t o ih =>
    intro i j hij hj hne
    have hA : ∀ k, k < (ofL d t).length → (opAt (ofL d t) k).1 = t := fun k hk => by
      have := (List.mem_filter.1 (opAt_mem (l := ofL d t) hk)).2
      simpa using this
    rw [along_cons] at hj hne ⊢
    by_cases hi : i < (ofL d t).length
    · rw [opAt_left hi, hA i hi] at hne ⊢
      by_cases hj2 : j < (ofL d t).length
      · rw [opAt_left hj2, hA j hj2] at hne
        exact absurd rfl hne
      · rw [opAt_right (by omega)] at hne ⊢
        rw [List.length_append] at hj
        have hm := (along_mem.1 (opAt_mem (l := alongL d o) (i := j - (ofL d t).length) (by omega))).2
        exact List.Sublist.cons_cons _ (List.singleton_sublist.2 hm)
    · rw [opAt_right (by omega), opAt_right (by omega)] at hne ⊢
      rw [List.length_append] at hj
      exact (ih (by omega) (by omega) hne).cons _
theorem along_ser {d : List Op3} {o : List Int} (hd : Doing (alongL d o)) (ho : o.Nodup) : serB (alongL d o) = true := by
  have key : ∀ n, n ≤ (alongL d o).length → badTo (alongL d o) n = 0 := by
    intro n
    induction n with
    | zero => intro _; rfl
    | succ n ih =>
      intro hn
      by_cases hz : n = 0
      · subst hz; exact badTo_one _
      · rw [badTo_no ?_]
        · exact ih (by omega)
        · cases hb : badAt (alongL d o) n with
          | false => rfl
          | true =>
            unfold badAt at hb
            simp only [Bool.and_eq_true, bne_iff_ne] at hb
            obtain ⟨h1, h2⟩ := hb
            have hlt : n - 1 < (alongL d o).length := by omega
            obtain ⟨p, hp, e1, e2⟩ := hd.ends _ (opAt_mem hlt)
            obtain ⟨j, hj, rfl⟩ := List.getElem_of_mem hp
            rw [← opAt_get hj] at e1 e2
            rcases Nat.lt_trichotomy j (n - 1) with h3 | h3 | h3
            · exact absurd e1 (calm_at hd.calm h3 hlt e2)
            · subst h3; exact absurd e2 h2
            · have hjn : j ≠ n := fun e => by subst e; exact h1 e1
              have s1 := along_pos (d := d) (o := o) (show n - 1 < n by omega) (by omega) (fun e => h1 e.symm)
              have s2 := along_pos (d := d) (o := o) (show n < j by omega) hj (fun e => h1 (e.trans e1))
              rw [e1] at s2
              exact (pair_not ho s1 s2).elim
  unfold serB
  rw [key _ (Nat.le_refl _)]; rfl
theorem odd_sym (a b : Op3) : oddB a b = oddB b a := by
  unfold oddB
  have h1 : (a.1 != b.1) = (b.1 != a.1) := by simp [bne, Bool.beq_comm]
  have h2 : (a.2.2 == b.2.2) = (b.2.2 == a.2.2) := Bool.beq_comm
  rw [h1, h2, Bool.or_comm]
theorem odd_deal {a b : Op3} (h : oddB a b = true) : a.1 ≠ b.1 := by
  unfold oddB at h
  simp at h
  exact h.1
theorem edge_mem {d : List Op3} (hd : ∀ x ∈ d, 1 ≤ x.1 ∧ x.1 ≤ 6) {i j : Nat} (hij : i < j) (hj : j < d.length) (h : oddB (opAt d i) (opAt d j) = true) : ((opAt d i).1, (opAt d j).1) ∈ edgesTo d 36 := by
  unfold edgesTo
  have h1 := hd _ (opAt_mem (l := d) (i := i) (by omega))
  have h2 := hd _ (opAt_mem hj)
  rw [List.take_of_length_le (by simp [allE]), List.mem_filter]
  refine ⟨mem_allE h1.1 h1.2 h2.1 h2.2, List.any_eq_true.2 ⟨((i : Int), (j : Int)), mem_pairs.2 ⟨i, j, hij, hj, h, rfl⟩, ?_⟩⟩
  simp [edgeOf]
theorem mem_edge {d : List Op3} {e : Edge2} (h : e ∈ edgesTo d 36) : ∃ i j : Nat, i < j ∧ j < d.length ∧ oddB (opAt d i) (opAt d j) = true ∧ e = ((opAt d i).1, (opAt d j).1) := by
  have h1 := (List.mem_filter.1 h).2
  unfold leadsB at h1
  obtain ⟨p, hp, h2⟩ := List.any_eq_true.1 h1
  obtain ⟨i, j, hij, hj, ho, rfl⟩ := mem_pairs.1 hp
  refine ⟨i, j, hij, hj, ho, ?_⟩
  have h3 : edgeOf d ((i : Int), (j : Int)) = e := by simpa using h2
  rw [← h3]
  simp [edgeOf]
theorem spot_at {h g : List Op3} {i k : Nat} (hk : k < g.length) (hn : nameAt g k = nameAt h i) : spot h g i = k := by
  unfold spot
  rw [place_name hk hn]; rfl
theorem name_op {h g : List Op3} {i k : Nat} (hn : nameAt g k = nameAt h i) : opAt g k = opAt h i := congrArg Prod.fst hn
/-- An order that keeps to the edges. -/
def Keeps (l : List Edge2) (o : List Int) : Prop := ∀ e ∈ l, [e.1, e.2].Sublist o
theorem same_along {d : List Op3} (hd : ∀ x ∈ d, 1 ≤ x.1 ∧ x.1 ≤ 6) {o : List Int} (hs : sortI o = dealsL d) (hk : Keeps (edgesTo d 36) o) : sameB (alongL d o) d = true := by
  have hq := along_deals hs
  have hr2 : ∀ x ∈ alongL d o, 1 ≤ x.1 ∧ x.1 ≤ 6 := fun x hx => hd x (along_mem.1 hx).1
  have hn := named_of_deals hr2 hq
  rw [sameB_yes ⟨len_of_deals hr2 hd hq, hn⟩, Bool.not_eq_true', List.any_eq_false]
  intro e he
  obtain ⟨i, j, hij, hj, ho, rfl⟩ := mem_pairs.1 he
  obtain ⟨k, k1, k2⟩ := hn i (by omega)
  obtain ⟨m, m1, m2⟩ := hn j hj
  unfold turnedB
  simp only [Int.toNat_natCast, spot_at k1 k2, spot_at m1 m2, decide_eq_true_eq]
  intro hmk
  have hne := odd_deal ho
  have s1 := along_pos (d := d) (o := o) hij hj hne
  have s2 := hk _ (edge_mem hd hmk k1 (by rw [name_op k2, name_op m2, odd_sym]; exact ho))
  simp only [name_op k2, name_op m2] at s2
  exact pair_not (order_once hs) s1 s2
/-- Where it goes around no order keeps to the edges. -/
theorem none_keeps {l : List Edge2} (hr : Right l) (hn : orderL l = none) {o : List Int} (ho : o.Nodup) (hd : ∀ x ∈ o, 1 ≤ x ∧ x ≤ 6) : ¬ Keeps l o := fun hk => by
  rcases graph_either hr with ⟨q, hq, _⟩ | ⟨_, r, _, hring, h1, _⟩
  · rw [hn] at hq; cases hq
  · have hio : IsOrder l o := ⟨fun x hx => ⟨x.toNat, by have := hd x hx; omega, by have := hd x hx; omega, by have := hd x hx; omega⟩, ho, fun x y he => sub_pair (hk _ he)⟩
    exact no_round hio _ (hring.round 0 (by omega))
theorem ordF_once (l : List Edge2) : ∀ (n : Nat) (s : Set7) (o : List Int), cntS s ≤ n → (∀ k, s k = true → 1 ≤ k ∧ k ≤ 6) → ordF l n s = some o → o.Nodup := by
  intro n
  induction n with
  | zero =>
    intro s o hn _ h
    rw [ordF_end (cnt_zero (s := s) (by omega))] at h
    rw [← Option.some.inj h]; exact List.nodup_nil
  | succ n ih =>
    intro s o hn hs h
    cases ha : anyS s with
    | false => rw [ordF_end ha] at h; rw [← Option.some.inj h]; exact List.nodup_nil
    | true =>
      by_cases h0 : nextN l s = 0
      · rw [ordF_stop hn ha h0] at h; cases h
      · rw [ordF_on hn ha h0] at h
        obtain ⟨r, hr, e⟩ := Option.map_eq_some_iff.1 h
        have hc := cnt_next h0
        have hs2 : ∀ k, setS s (nextN l s) false k = true → 1 ≤ k ∧ k ≤ 6 := fun k hk => by
          by_cases e2 : k = nextN l s
          · rw [e2, setS_same] at hk; cases hk
          · rw [setS_other s false e2] at hk; exact hs k hk
        rw [← e]
        refine List.nodup_cons.2 ⟨fun hm => ?_, ih _ r (by omega) hs2 hr⟩
        obtain ⟨t, ht, h2⟩ := (ordF_mem l _ _ r (by omega) hs2 hr _).1 hm
        have : t = nextN l s := by omega
        rw [this, setS_same] at h2; cases h2
theorem weave_sub (b : List Int) : ∀ fr, b.Sublist (weaveL b fr) := by
  induction b with
  | nil => intro fr; exact List.nil_sublist _
  | cons a r ih =>
    intro fr
    exact (((ih _).cons_cons a)).trans (List.sublist_append_right _ _)
/-- The program's order is one of all deals that are done, and keeps to the edges. -/
theorem serOrd_some {d : List Op3} (hd : ∀ x ∈ d, 1 ≤ x.1 ∧ x.1 ≤ 6) {o : List Int} (h : serOrd d = some o) : sortI o = dealsL d ∧ Keeps (edgesTo d 36) o := by
  have h1 := serOrd_sort hd
  rw [h] at h1
  unfold sortD at h1
  rw [orderGo_F] at h1
  obtain ⟨q, hq, e⟩ := Option.map_eq_some_iff.1 h1
  simp only [List.nil_append] at e
  subst e
  have hls : ∀ t : Nat, leftS (dealsL d) [] t = inB (dealsL d) (t : Int) := fun t => by
    unfold leftS
    rw [inB_not.2 (by simp : (t : Int) ∉ ([] : List Int))]
    simp
  have hs : ∀ k, leftS (dealsL d) [] k = true → 1 ≤ k ∧ k ≤ 6 := fun k hk => by
    rw [hls, inB_iff] at hk
    have := mem_deals.1 hk
    omega
  refine ⟨sort_of_mem (ordF_once _ 7 _ q (cnt_le _) hs hq) (dealsL_rise d) fun x => ?_, fun e he => ?_⟩
  · rw [ordF_mem _ 7 _ q (cnt_le _) hs hq]
    constructor
    · rintro ⟨t, rfl, ht⟩
      rw [hls, inB_iff] at ht; exact ht
    · intro hx
      have := mem_deals.1 hx
      exact ⟨x.toNat, by omega, by rw [hls, Int.toNat_of_nonneg (by omega)]; exact inB_iff.2 hx⟩
  · unfold serOrd at h
    obtain ⟨b, hb, e2⟩ := Option.map_eq_some_iff.1 h
    have hr := edges_right d 36
    rcases order_either hr with ⟨b', hb', hio⟩ | ⟨hb', _⟩
    · rw [hb] at hb'
      cases hb'
      obtain ⟨x, y, rfl, _, _⟩ := hr.nat he
      obtain ⟨i, j, hij, hi, hj⟩ := hio.back x y he
      rw [← e2]
      exact (pair_sub hij hi hj).trans (weave_sub b _)
    · rw [hb] at hb'; cases hb'
theorem serOrd_none {d : List Op3} : serOrd d = none ↔ orderL (edgesTo d 36) = none := by unfold serOrd; simp
/-- Serial just if no ring. -/
theorem just_some {d : List Op3} (hd : Doing d) (hc : (chk d).2 = 0) {o : List Int} (h : serOrd d = some o) : sortI o = dealsL d ∧ (chk (alongL d o)).2 = 0 ∧ doneL (alongL d o) = alongL d o ∧ sameB (alongL d o) d = true ∧ serB (alongL d o) = true := by
  obtain ⟨h1, h2⟩ := serOrd_some hd.deal h
  have h3 := hd.along hc h1
  exact ⟨h1, along_chk hc h1, h3.done, same_along hd.deal h1 h2, along_ser h3 (order_once h1)⟩
end Go.Proofs.YtmjjiehnjghndaaGreat
