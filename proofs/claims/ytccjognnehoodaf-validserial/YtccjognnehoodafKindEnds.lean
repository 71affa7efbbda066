/-
  PROVED HERE: plain facts, with no word of the program: of a run in which deals see what was done (KindPlain): what each wrote, who only reads is done where that is no cause to abort it, who is done asked to commit, and there are no more than six.
  Conditions: none.
-/
import Derived.Test.YtccjognnehoodafValidPlain
namespace Go.Proofs.Ytccjognnehoodaf

/-- What a deal's own ops write. -/
def wrL (own : List Op3) : List Int := (own.filter fun o => o.2.1 == 2).map fun o => o.2.2
theorem wrL_snoc (own : List Op3) (o : Op3) : wrL (own ++ [o]) = wrL own ++ (if o.2.1 = 2 then [o.2.2] else []) := by
  unfold wrL
  rw [List.filter_append, List.map_append]
  by_cases h : o.2.1 = 2 <;> simp [h]
structure ROk (l : List Op3) (k : Nat) (s : Kst) : Prop where
  wr : ∀ t, s.beg t = true → (s.of t).wrote = wrL (ofL (l.take k) t)
  reader : ∀ t, (t, 3, 0) ∈ l.take k → wrL (ofL (l.take k) t) = [] → t ∈ s.done
theorem rOk0 (l : List Op3) : ROk l 0 kst0 := ⟨fun _ h => (by cases h), fun t h => by rw [List.take_zero] at h; cases h⟩
theorem now_wr {l : List Op3} {k : Nat} {s : Kst} (h : ∀ t, s.beg t = true → (s.of t).wrote = wrL (ofL (l.take k) t)) (hK : KOk l k s) (t : Int) : (nowK s k t).wrote = wrL (ofL (l.take k) t) := by
  unfold nowK
  split
  · rename_i hb
    exact h t hb
  · rename_i hb
    rw [hK.fresh t (by simpa using hb)]
    rfl
/-- What each wrote, of whatever kind. -/
theorem wr_next {kind : Int} {okF : Kst → Int → Dl → Bool} {l : List Op3} {k : Nat} {s : Kst} (h : ∀ t, s.beg t = true → (s.of t).wrote = wrL (ofL (l.take k) t)) (hK : KOk l k s) (hk : k < l.length) :
    ∀ t, (stepK kind okF s k (opAt l k)).beg t = true → ((stepK kind okF s k (opAt l k)).of t).wrote = wrL (ofL (l.take (k + 1)) t) := by
  have hn := now_wr h hK (opAt l k).1
  have hown : ofL (l.take (k + 1)) (opAt l k).1 = ofL (l.take k) (opAt l k).1 ++ [opAt l k] := by rw [of_take hk, if_pos rfl]
  have key : ∀ (r : Dl) (dn : List Int) (lk : List Op3), r.wrote = wrL (ofL (l.take (k + 1)) (opAt l k).1) → ∀ t, (Kst.mk dn (setF s.of (opAt l k).1 r) (setF s.beg (opAt l k).1 true) lk).beg t = true → ((Kst.mk dn (setF s.of (opAt l k).1 r) (setF s.beg (opAt l k).1 true) lk).of t).wrote = wrL (ofL (l.take (k + 1)) t) := fun r dn lk hr t ht => by
    have ht' : setF s.beg (opAt l k).1 true t = true := ht
    show (setF s.of (opAt l k).1 r t).wrote = wrL (ofL (l.take (k + 1)) t)
    by_cases e : t = (opAt l k).1
    · rw [e, setF_same]; exact hr
    · rw [setF_other _ _ e] at ht' ⊢
      rw [of_take hk, if_neg (fun e' => e e'.symm), List.append_nil]
      exact h t ht'
  unfold stepK
  split
  · rename_i ho
    refine key _ _ _ ?_
    rw [hown, wrL_snoc, if_neg (by omega), List.append_nil]
    exact hn
  · split
    · rename_i ho
      refine key _ _ _ ?_
      rw [hown, wrL_snoc, if_pos ho, ← hn]
    · rename_i ho2
      have e : (nowK s k (opAt l k).1).wrote = wrL (ofL (l.take (k + 1)) (opAt l k).1) := by
        rw [hown, wrL_snoc, if_neg ho2, List.append_nil]
        exact hn
      split
      · split
        · exact key _ _ _ e
        · exact key _ _ _ e
      · exact key _ _ _ e
theorem run_wr (kind : Int) (okF : Kst → Int → Dl → Bool) {l : List Op3} (h : (chk l).2 = 0) : ∀ k, k ≤ l.length → ∀ t, (runK kind okF l k).beg t = true → ((runK kind okF l k).of t).wrote = wrL (ofL (l.take k) t) := by
  intro k
  induction k with
  | zero => exact fun _ => fun t h => by cases h
  | succ k ih => exact fun hk => wr_next (ih (by omega)) (run_kOk kind okF h k (by omega)) (by omega)
theorem done_sub (kind : Int) (okF : Kst → Int → Dl → Bool) (s : Kst) (k : Int) (o : Op3) : ∀ t ∈ s.done, t ∈ (stepK kind okF s k o).done := by
  intro t ht
  unfold stepK
  split
  · exact ht
  · split
    · exact ht
    · split
      · split
        · exact List.mem_append_left _ ht
        · exact ht
      · exact ht
/-- WHO ONLY READS IS ALWAYS DONE. -/
theorem run_reader (kind : Int) (okF : Kst → Int → Dl → Bool) (hok : ∀ s t r, r.wrote = [] → okF s t r = true) {l : List Op3} (h : (chk l).2 = 0) : ∀ k, k ≤ l.length → ∀ t, (t, 3, 0) ∈ l.take k → wrL (ofL (l.take k) t) = [] → t ∈ (runK kind okF l k).done := by
  intro k
  induction k with
  | zero => exact fun _ t h => by rw [List.take_zero] at h; cases h
  | succ k ih =>
    intro hk t ht hw
    have hk' : k < l.length := by omega
    have hK := run_kOk kind okF h k (by omega)
    have hsplit : wrL (ofL (l.take k) t) = [] := by
      rw [of_take hk'] at hw
      split at hw
      · rw [wrL_snoc] at hw
        exact (List.append_eq_nil_iff.1 hw).1
      · rw [List.append_nil] at hw
        exact hw
    rw [List.take_succ_eq_append_getElem hk', List.mem_append, List.mem_singleton, ← opAt_at hk'] at ht
    show t ∈ (stepK kind okF (runK kind okF l k) (k : Int) (opAt l k)).done
    rcases ht with ht | ht
    · exact done_sub _ _ _ _ _ t (ih (by omega) t ht hsplit)
    · rw [← ht]
      unfold stepK
      rw [if_neg (show ¬ (3 : Int) = 1 by decide), if_neg (show ¬ (3 : Int) = 2 by decide), if_pos rfl, if_pos (hok _ _ _ ?_)]
      · exact List.mem_append_right _ (List.mem_singleton.2 rfl)
      · rw [now_wr (run_wr kind okF h k (by omega)) hK]
        exact hsplit
/-- Who is done asked to commit. -/
theorem endOf_three {l : List Op3} (hop : ∀ o ∈ l, isOpB o = true) (hc : Calm l) : ∀ {t : Int}, (t, 3, 0) ∈ l → endOf l t = 3 := by
  induction l with
  | nil => intro t h; cases h
  | cons a l ih =>
    intro t h
    obtain ⟨h1, h2⟩ := List.pairwise_cons.1 hc
    rcases List.mem_cons.1 h with e | h'
    · rw [← e]
      exact if_pos ⟨rfl, Int.le_refl 3⟩
    · have hne := h1 _ h'
      unfold endOf
      by_cases hh : a.1 = t ∧ 3 ≤ a.2.1
      · rw [if_pos hh]
        refine absurd ⟨hh.1, ?_⟩ hne
        rcases isOp_kinds (hop a (List.mem_cons_self ..)) with e | e | ⟨e | e, _⟩
        · omega
        · omega
        · rw [e]; rfl
        · rw [e]; rfl
      · rw [if_neg hh]
        exact ih (fun o ho => hop o (List.mem_cons_of_mem _ ho)) h2 h'
theorem mem_endOf {l : List Op3} (hop : ∀ o ∈ l, isOpB o = true) : ∀ {t : Int}, endOf l t = 3 → (t, 3, 0) ∈ l := by
  induction l with
  | nil => intro t h; cases h
  | cons a l ih =>
    intro t h
    unfold endOf at h
    split at h
    · rename_i hh
      rcases isOp_kinds (hop a (List.mem_cons_self ..)) with e | e | ⟨_, e⟩
      · omega
      · omega
      · have : a = (t, 3, 0) := Prod.ext hh.1 (Prod.ext h e)
        rw [this]
        exact List.mem_cons_self ..
    · exact List.mem_cons_of_mem _ (ih (fun o ho => hop o (List.mem_cons_of_mem _ ho)) h)
theorem sub_len : ∀ (l m : List Int), l.Nodup → (∀ x ∈ l, x ∈ m) → l.length ≤ m.length := by
  intro l
  induction l with
  | nil => exact fun m _ _ => Nat.zero_le _
  | cons a l ih =>
    intro m hn hs
    obtain ⟨h1, h2⟩ := List.nodup_cons.1 hn
    have ha := hs a (List.mem_cons_self ..)
    have := ih (m.erase a) h2 fun x hx => (List.mem_erase_of_ne (show x ≠ a from fun e => h1 (e ▸ hx))).2 (hs x (List.mem_cons_of_mem _ hx))
    rw [List.length_erase_of_mem ha] at this
    have hpos := List.length_pos_of_mem ha
    rw [List.length_cons]
    omega
theorem six_len {l : List Int} (hn : l.Nodup) (h : ∀ x ∈ l, 1 ≤ x ∧ x ≤ 6) : l.length ≤ 6 :=
  sub_len l [1, 2, 3, 4, 5, 6] hn fun x hx => by
    have := h x hx
    simp
    omega
end Go.Proofs.Ytccjognnehoodaf
