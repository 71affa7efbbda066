/-
  PROVED HERE: plain facts, with no word of the program: of deals that are looked at when they end (chapter 11, as KindPlain has it) each that is done saw what those wrote that were done ahead of it.
  Conditions: none.
  PROVED HERE: plain facts, with no word of the program: of a run in which deals see what was done (KindPlain): what each wrote, who only reads is done where that is no cause to abort it, who is done asked to commit, and there are no more than six.
  Conditions: none.
-/
import Derived.Test.YtccjognnehoodafDoorMgap
namespace Go.Proofs.YtccjognnehoodafDoor

/-- Who of these wrote an item last. -/
def lastK (of : Int → Dl) (ds : List Int) (item : Int) : Int := ds.foldl (fun f t => if inB (of t).wrote item = true then t else f) 0
theorem lastK_snoc (of : Int → Dl) (ds : List Int) (t item : Int) : lastK of (ds ++ [t]) item = if inB (of t).wrote item = true then t else lastK of ds item := by
  unfold lastK
  rw [List.foldl_append]
  rfl
theorem foldl_congr' {α β : Type} {f g : β → α → β} : ∀ (l : List α) (b : β), (∀ b, ∀ x ∈ l, f b x = g b x) → l.foldl f b = l.foldl g b := by
  intro l
  induction l with
  | nil => intros; rfl
  | cons a l ih =>
    intro b h
    rw [List.foldl_cons, List.foldl_cons, h b a (List.mem_cons_self ..)]
    exact ih _ fun b x hx => h b x (List.mem_cons_of_mem _ hx)
theorem lastK_congr {of of' : Int → Dl} {ds : List Int} (h : ∀ t ∈ ds, of t = of' t) (item : Int) : lastK of ds item = lastK of' ds item := by
  unfold lastK
  exact foldl_congr' _ _ fun b x hx => by rw [h x hx]
theorem lastK_set {of : Int → Dl} {ds : List Int} {t : Int} (h : t ∉ ds) (r : Dl) (item : Int) : lastK (setF of t r) ds item = lastK of ds item :=
  lastK_congr (of := setF of t r) (of' := of) (fun _ hu => setF_other _ _ fun e => h (e ▸ hu)) item
theorem who_last {of : Int → Dl} {ds : List Int} {time : Int} (h : ∀ t ∈ ds, (of t).ended < time) (item : Int) : whoK ds of item time 0 = lastK of ds item := by
  unfold whoK lastK
  refine foldl_congr' _ _ fun b x hx => ?_
  have := h x hx
  have e : decide (time ≤ (of x).ended) = false := by simp; omega
  rw [e, Bool.or_false]
  cases inB (of x).wrote item <;> simp
/-- Whose reads an end has made old. -/
def okV (s : Kst) (t : Int) (r : Dl) : Bool := !hitK 1 s t r
/-- What is always so of such a run. -/
structure VOkK (s : Kst) : Prop where
  done : ∀ p t q, s.done = p ++ t :: q → ∀ e ∈ (s.of t).seen, e.2.2 ≠ t → e.2.2 = lastK s.of p e.2.1
  open_ : ∀ t, s.beg t = true → t ∉ s.done → ∀ e ∈ (s.of t).seen, e.2.2 ≠ t → e.2.2 = lastK s.of s.done e.2.1 ∨ ∃ i ∈ s.done, inB (s.of i).wrote e.2.1 = true ∧ (s.of t).began < (s.of i).ended
theorem vOk0 : VOkK kst0 := ⟨fun p t q h => (by cases p <;> cases h), fun _ h => (by cases h)⟩
theorem VOkK.stay {s : Kst} (h : VOkK s) {t : Int} (hnd : t ∉ s.done) (r : Dl) (lk : List Op3)
    (hr : ∀ e ∈ r.seen, e.2.2 ≠ t → e.2.2 = lastK s.of s.done e.2.1 ∨ ∃ i ∈ s.done, inB (s.of i).wrote e.2.1 = true ∧ r.began < (s.of i).ended) : VOkK ⟨s.done, setF s.of t r, setF s.beg t true, lk⟩ := by
  have hoth : ∀ i ∈ s.done, setF s.of t r i = s.of i := fun i hi => setF_other _ _ fun e => hnd (e ▸ hi)
  refine ⟨fun p u q hp e he hne => ?_, fun u hu hnu e he hne => ?_⟩
  · have hp' : s.done = p ++ u :: q := hp
    have hu : u ∈ s.done := by rw [hp']; simp
    have hps : t ∉ p := fun e => hnd (by rw [hp']; exact List.mem_append_left _ e)
    show e.2.2 = lastK (setF s.of t r) p e.2.1
    rw [lastK_set hps]
    have he' : e ∈ (setF s.of t r u).seen := he
    rw [hoth u hu] at he'
    exact h.done p u q hp' e he' hne
  · show e.2.2 = lastK (setF s.of t r) s.done e.2.1 ∨ ∃ i ∈ s.done, inB (setF s.of t r i).wrote e.2.1 = true ∧ (setF s.of t r u).began < (setF s.of t r i).ended
    rw [lastK_set hnd]
    have he' : e ∈ (setF s.of t r u).seen := he
    have hu' : setF s.beg t true u = true := hu
    have fin : (e.2.2 = lastK s.of s.done e.2.1 ∨ ∃ i ∈ s.done, inB (s.of i).wrote e.2.1 = true ∧ (setF s.of t r u).began < (s.of i).ended) → (e.2.2 = lastK s.of s.done e.2.1 ∨ ∃ i ∈ s.done, inB (setF s.of t r i).wrote e.2.1 = true ∧ (setF s.of t r u).began < (setF s.of t r i).ended) := fun hh => by
      rcases hh with hh | ⟨i, hi, h1, h2⟩
      · exact Or.inl hh
      · exact Or.inr ⟨i, hi, by rw [hoth i hi]; exact ⟨h1, h2⟩⟩
    refine fin ?_
    by_cases e1 : u = t
    · subst e1
      rw [setF_same] at he' ⊢
      exact hr e he' hne
    · rw [setF_other _ _ e1] at he' hu' ⊢
      exact h.open_ u hu' hnu e he' hne
theorem hit_of {s : Kst} {t : Int} {r : Dl} {i item : Int} {e : Op3} (hi : i ∈ s.done) (hw : inB (s.of i).wrote item = true) (hb : r.began < (s.of i).ended) (he : e ∈ r.seen) (h1 : e.2.1 = item) (h2 : e.2.2 ≠ t) : hitK 1 s t r = true := by
  unfold hitK
  rw [List.any_eq_true]
  refine ⟨i, hi, ?_⟩
  rw [List.any_eq_true]
  refine ⟨item, by simpa [inB] using hw, ?_⟩
  rw [if_neg (by decide), Bool.and_eq_true]
  refine ⟨decide_eq_true hb, ?_⟩
  unfold readK
  rw [List.any_eq_true]
  refine ⟨e, he, ?_⟩
  simp [h1, h2]
theorem VOkK.end_ {s : Kst} (h : VOkK s) {k : Nat} {t : Int} (hnd : t ∉ s.done) (r : Dl) (lk : List Op3) (hend : r.ended = k) (hbeg : ∀ u, s.beg u = true → (s.of u).began < (k : Int))
    (hr : ∀ e ∈ r.seen, e.2.2 ≠ t → e.2.2 = lastK s.of s.done e.2.1) : VOkK ⟨s.done ++ [t], setF s.of t r, setF s.beg t true, lk⟩ := by
  have hoth : ∀ i ∈ s.done, setF s.of t r i = s.of i := fun i hi => setF_other _ _ fun e => hnd (e ▸ hi)
  refine ⟨fun p u q hp e he hne => ?_, fun u hu hnu e he hne => ?_⟩
  · have hp' : s.done ++ [t] = p ++ u :: q := hp
    have he' : e ∈ (setF s.of t r u).seen := he
    show e.2.2 = lastK (setF s.of t r) p e.2.1
    rcases List.eq_nil_or_concat q with rfl | ⟨q', z, rfl⟩
    · obtain ⟨e1, e2⟩ := List.append_inj' hp' rfl
      cases e2
      subst e1
      rw [lastK_set hnd]
      rw [setF_same] at he'
      exact hr e he' hne
    · have hp2 : s.done ++ [t] = (p ++ u :: q') ++ [z] := by rw [hp']; simp
      obtain ⟨e1, _⟩ := List.append_inj' hp2 rfl
      have hu : u ∈ s.done := by rw [e1]; simp
      have hps : t ∉ p := fun e => hnd (by rw [e1]; exact List.mem_append_left _ e)
      rw [lastK_set hps]
      rw [hoth u hu] at he'
      exact h.done p u q' e1 e he' hne
  · have hnu' : u ∉ s.done ++ [t] := hnu
    have hut : u ≠ t := fun e => hnu' (by rw [e]; simp)
    have hus : u ∉ s.done := fun e => hnu' (List.mem_append_left _ e)
    have hu' : setF s.beg t true u = true := hu
    have he' : e ∈ (setF s.of t r u).seen := he
    rw [setF_other _ _ hut] at hu' he'
    show e.2.2 = lastK (setF s.of t r) (s.done ++ [t]) e.2.1 ∨ ∃ i ∈ s.done ++ [t], inB (setF s.of t r i).wrote e.2.1 = true ∧ (setF s.of t r u).began < (setF s.of t r i).ended
    rw [lastK_snoc, setF_same, lastK_set hnd, setF_other s.of r hut]
    by_cases hw : inB r.wrote e.2.1 = true
    · refine Or.inr ⟨t, by simp, ?_, ?_⟩
      · rw [setF_same]; exact hw
      · rw [setF_same, hend]; exact hbeg u hu'
    · rw [if_neg hw]
      rcases h.open_ u hu' hus e he' hne with hh | ⟨i, hi, h1, h2⟩
      · exact Or.inl hh
      · exact Or.inr ⟨i, List.mem_append_left _ hi, by rw [hoth i hi]; exact ⟨h1, h2⟩⟩
theorem VOkK.now {s : Kst} (h : VOkK s) (k : Int) {t : Int} (hnd : t ∉ s.done) : ∀ e ∈ (nowK s k t).seen, e.2.2 ≠ t → e.2.2 = lastK s.of s.done e.2.1 ∨ ∃ i ∈ s.done, inB (s.of i).wrote e.2.1 = true ∧ (nowK s k t).began < (s.of i).ended := by
  unfold nowK
  split
  · rename_i hb
    exact h.open_ t hb hnd
  · intro e he
    cases he
theorem valid_next {l : List Op3} {k : Nat} {s : Kst} (h : VOkK s) (hK : KOk l k s) (hc : Calm l) (hk : k < l.length) : VOkK (stepK 1 okV s k (opAt l k)) := by
  have hnd := hK.free hc hk
  have hnow := h.now k hnd
  have htime : ∀ t ∈ s.done, (s.of t).ended < (k : Int) := fun t ht => (hK.comm t ht).2.2.2.2.1
  unfold stepK
  split
  · refine h.stay hnd _ _ fun e he hne => ?_
    rcases List.mem_append.1 he with he | he
    · exact hnow e he hne
    · rw [List.mem_singleton.1 he] at hne ⊢
      dsimp only at hne ⊢
      refine Or.inl ?_
      unfold fromK at hne ⊢
      split at hne
      · exact absurd rfl hne
      · rename_i hw
        rw [if_neg hw, if_pos rfl]
        exact who_last htime _
  · split
    · exact h.stay hnd _ _ hnow
    · split
      · split
        · rename_i hok
          refine h.end_ hnd _ _ rfl (fun u hu => (hK.times u hu).2) fun e he hne => ?_
          rcases hnow e he hne with hh | ⟨i, hi, h1, h2⟩
          · exact hh
          · have hx := hit_of (t := (opAt l k).1) hi h1 h2 he rfl hne
            unfold okV at hok
            rw [hx] at hok
            cases hok
        · exact h.stay hnd _ _ hnow
      · exact h.stay hnd _ _ hnow
theorem valid_ok {l : List Op3} (h : (chk l).2 = 0) : ∀ k, k ≤ l.length → VOkK (runK 1 okV l k) := by
  obtain ⟨_, h2, h3⟩ := (chk_iff l).1 h
  intro k
  induction k with
  | zero => exact fun _ => vOk0
  | succ k ih => exact fun hk => valid_next (ih (by omega)) (run_kOk 1 okV h k (by omega)) h3 (by omega)
/-- AS IF ONE BEHIND THE OTHER, AS THEY END: each that is done saw, and wrote, what it would behind those that were done ahead of it. -/
theorem valid_sees {l : List Op3} (h : (chk l).2 = 0) {p q : List Int} {t : Int} (hp : (runK 1 okV l l.length).done = p ++ t :: q) :
    (((runK 1 okV l l.length).of t).seen, ((runK 1 okV l l.length).of t).wrote) = expK t (lastK (runK 1 okV l l.length).of p) (ofL l t) := by
  have hK := run_kOk 1 okV h l.length (Nat.le_refl _)
  have hV := valid_ok h l.length (Nat.le_refl _)
  have ht : t ∈ (runK 1 okV l l.length).done := by rw [hp]; simp
  have := hK.sees t (hK.comm t ht).1 (lastK (runK 1 okV l l.length).of p) (hV.done p t q hp)
  rw [List.take_length] at this
  exact this
end Go.Proofs.YtccjognnehoodafDoor

namespace Go.Proofs.YtccjognnehoodafDoor

/-- What a deal's own ops write. -/
def wrL (own : List Op3) : List Int := (own.filter fun o => o.2.1 == 2).map fun o => o.2.2
theorem wrL_snoc (own : List Op3) (o : Op3) : wrL (own ++ [o]) = wrL own ++ (if o.2.1 = 2 then [o.2.2] else []) := by
  unfold wrL
  rw [List.filter_append, List.map_append]
  by_cases h : o.2.1 = 2 <;> simp [h]
structure ROk (l : List Op3) (k : Nat) (s : Kst) : Prop where
  wr : ∀ t, s.beg t = true → (s.of t).wrote = wrL (ofL (l.take k) t)
  reader : ∀ t, (t, 3, 0) ∈ l.take k → wrL (ofL (l.take k) t) = [] → t ∈ s.done
theorem rOk0 (l : List Op3) : ROk l 0 kst0 := ⟨fun _ h => (by cases h), fun t h => by rw [List.take_zero] at h; cases h⟩
theorem now_wr {l : List Op3} {k : Nat} {s : Kst} (h : ∀ t, s.beg t = true → (s.of t).wrote = wrL (ofL (l.take k) t)) (hK : KOk l k s) (t : Int) : (nowK s k t).wrote = wrL (ofL (l.take k) t) := by
  unfold nowK
  split
  · rename_i hb
    exact h t hb
  · rename_i hb
    rw [hK.fresh t (by simpa using hb)]
    rfl
/-- What each wrote, of whatever kind. -/
theorem wr_next {kind : Int} {okF : Kst → Int → Dl → Bool} {l : List Op3} {k : Nat} {s : Kst} (h : ∀ t, s.beg t = true → (s.of t).wrote = wrL (ofL (l.take k) t)) (hK : KOk l k s) (hk : k < l.length) :
    ∀ t, (stepK kind okF s k (opAt l k)).beg t = true → ((stepK kind okF s k (opAt l k)).of t).wrote = wrL (ofL (l.take (k + 1)) t) := by
  have hn := now_wr h hK (opAt l k).1
  have hown : ofL (l.take (k + 1)) (opAt l k).1 = ofL (l.take k) (opAt l k).1 ++ [opAt l k] := by rw [of_take hk, if_pos rfl]
  have key : ∀ (r : Dl) (dn : List Int) (lk : List Op3), r.wrote = wrL (ofL (l.take (k + 1)) (opAt l k).1) → ∀ t, (Kst.mk dn (setF s.of (opAt l k).1 r) (setF s.beg (opAt l k).1 true) lk).beg t = true → ((Kst.mk dn (setF s.of (opAt l k).1 r) (setF s.beg (opAt l k).1 true) lk).of t).wrote = wrL (ofL (l.take (k + 1)) t) := fun r dn lk hr t ht => by
    have ht' : setF s.beg (opAt l k).1 true t = true := ht
    show (setF s.of (opAt l k).1 r t).wrote = wrL (ofL (l.take (k + 1)) t)
    by_cases e : t = (opAt l k).1
    · rw [e, setF_same]; exact hr
    · rw [setF_other _ _ e] at ht' ⊢
      rw [of_take hk, if_neg (fun e' => e e'.symm), List.append_nil]
      exact h t ht'
  unfold stepK
  split
  · rename_i ho
    refine key _ _ _ ?_
    rw [hown, wrL_snoc, if_neg (by omega), List.append_nil]
    exact hn
  · split
    · rename_i ho
      refine key _ _ _ ?_
      rw [hown, wrL_snoc, if_pos ho, ← hn]
    · rename_i ho2
      have e : (nowK s k (opAt l k).1).wrote = wrL (ofL (l.take (k + 1)) (opAt l k).1) := by
        rw [hown, wrL_snoc, if_neg ho2, List.append_nil]
        exact hn
      split
      · split
        · exact key _ _ _ e
        · exact key _ _ _ e
      · exact key _ _ _ e
theorem run_wr (kind : Int) (okF : Kst → Int → Dl → Bool) {l : List Op3} (h : (chk l).2 = 0) : ∀ k, k ≤ l.length → ∀ t, (runK kind okF l k).beg t = true → ((runK kind okF l k).of t).wrote = wrL (ofL (l.take k) t) := by
  intro k
  induction k with
  | zero => exact fun _ => fun t h => by cases h
  | succ k ih => exact fun hk => wr_next (ih (by omega)) (run_kOk kind okF h k (by omega)) (by omega)
theorem done_sub (kind : Int) (okF : Kst → Int → Dl → Bool) (s : Kst) (k : Int) (o : Op3) : ∀ t ∈ s.done, t ∈ (stepK kind okF s k o).done := by
  intro t ht
  unfold stepK
  split
  · exact ht
  · split
    · exact ht
    · split
      · split
        · exact List.mem_append_left _ ht
        · exact ht
      · exact ht
/-- WHO ONLY READS IS ALWAYS DONE. -/
theorem run_reader (kind : Int) (okF : Kst → Int → Dl → Bool) (hok : ∀ s t r, r.wrote = [] → okF s t r = true) {l : List Op3} (h : (chk l).2 = 0) : ∀ k, k ≤ l.length → ∀ t, (t, 3, 0) ∈ l.take k → wrL (ofL (l.take k) t) = [] → t ∈ (runK kind okF l k).done := by
  intro k
  induction k with
  | zero => exact fun _ t h => by rw [List.take_zero] at h; cases h
  | succ k ih =>
    intro hk t ht hw
    have hk' : k < l.length := by omega
    have hK := run_kOk kind okF h k (by omega)
    have hsplit : wrL (ofL (l.take k) t) = [] := by
      rw [of_take hk'] at hw
      split at hw
      · rw [wrL_snoc] at hw
        exact (List.append_eq_nil_iff.1 hw).1
      · rw [List.append_nil] at hw
        exact hw
    rw [List.take_succ_eq_append_getElem hk', List.mem_append, List.mem_singleton, ← opAt_at hk'] at ht
    show t ∈ (stepK kind okF (runK kind okF l k) (k : Int) (opAt l k)).done
    rcases ht with ht | ht
    · exact done_sub _ _ _ _ _ t (ih (by omega) t ht hsplit)
    · rw [← ht]
      unfold stepK
      rw [if_neg (show ¬ (3 : Int) = 1 by decide), if_neg (show ¬ (3 : Int) = 2 by decide), if_pos rfl, if_pos (hok _ _ _ ?_)]
      · exact List.mem_append_right _ (List.mem_singleton.2 rfl)
      · rw [now_wr (run_wr kind okF h k (by omega)) hK]
        exact hsplit
/-- Who is done asked to commit. -/
theorem endOf_three {l : List Op3} (hop : ∀ o ∈ l, isOpB o = true) (hc : Calm l) : ∀ {t : Int}, (t, 3, 0) ∈ l → endOf l t = 3 := by
  induction l with
  | nil => intro t h; cases h
  | cons a l ih =>
    intro t h
    obtain ⟨h1, h2⟩ := List.pairwise_cons.1 hc
    rcases List.mem_cons.1 h with e | h'
    · rw [← e]
      exact if_pos ⟨rfl, Int.le_refl 3⟩
    · have hne := h1 _ h'
      unfold endOf
      by_cases hh : a.1 = t ∧ 3 ≤ a.2.1
      · rw [if_pos hh]
        refine absurd ⟨hh.1, ?_⟩ hne
        rcases isOp_kinds (hop a (List.mem_cons_self ..)) with e | e | ⟨e | e, _⟩
        · omega
        · omega
        · rw [e]; rfl
        · rw [e]; rfl
      · rw [if_neg hh]
        exact ih (fun o ho => hop o (List.mem_cons_of_mem _ ho)) h2 h'
theorem mem_endOf {l : List Op3} (hop : ∀ o ∈ l, isOpB o = true) : ∀ {t : Int}, endOf l t = 3 → (t, 3, 0) ∈ l := by
  induction l with
  | nil => intro t h; cases h
  | cons a l ih =>
    intro t h
    unfold endOf at h
    split at h
    · rename_i hh
      rcases isOp_kinds (hop a (List.mem_cons_self ..)) with e | e | ⟨_, e⟩
      · omega
      · omega
      · have : a = (t, 3, 0) := Prod.ext hh.1 (Prod.ext h e)
        rw [this]
        exact List.mem_cons_self ..
    · exact List.mem_cons_of_mem _ (ih (fun o ho => hop o (List.mem_cons_of_mem _ ho)) h)
theorem sub_len : ∀ (l m : List Int), l.Nodup → (∀ x ∈ l, x ∈ m) → l.length ≤ m.length := by
  intro l
  induction l with
  | nil => exact fun m _ _ => Nat.zero_le _
  | cons a l ih =>
    intro m hn hs
    obtain ⟨h1, h2⟩ := List.nodup_cons.1 hn
    have ha := hs a (List.mem_cons_self ..)
    have := ih (m.erase a) h2 fun x hx => (List.mem_erase_of_ne (show x ≠ a from fun e => h1 (e ▸ hx))).2 (hs x (List.mem_cons_of_mem _ hx))
    rw [List.length_erase_of_mem ha] at this
    have hpos := List.length_pos_of_mem ha
    rw [List.length_cons]
    omega
theorem six_len {l : List Int} (hn : l.Nodup) (h : ∀ x ∈ l, 1 ≤ x ∧ x ≤ 6) : l.length ≤ 6 :=
  sub_len l [1, 2, 3, 4, 5, 6] hn fun x hx => by
    have := h x hx
    simp
    omega
end Go.Proofs.YtccjognnehoodafDoor
