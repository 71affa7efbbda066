/-
  PROVED HERE: plain facts, with no word of the program: how long the lists of a run (chapters 11 to 14, as KindPlain has them) can be, and which items a deal writes.
  Conditions: none.
  PROVED HERE: plain facts, with no word of the program: of deals with versions (chapter 14, as KindPlain has it) each that is done saw what those of lesser numbers wrote that are done; who only reads is always done.
  Conditions: none.
-/
import Derived.Test.YtccjognnehoodafDoorMgaq
namespace Go.Proofs.YtccjognnehoodafDoor

theorem kst_len (kind : Int) (okF : Kst → Int → Dl → Bool) (l : List Op3) : ∀ k, (∀ t, ((runK kind okF l k).of t).seen.length ≤ k ∧ ((runK kind okF l k).of t).wrote.length ≤ k) ∧ (runK kind okF l k).looks.length ≤ k := by
  intro k
  induction k with
  | zero => exact ⟨fun t => ⟨Nat.le_refl _, Nat.le_refl _⟩, Nat.le_refl _⟩
  | succ k ih =>
    obtain ⟨h1, h2⟩ := ih
    have hn : ∀ t, (nowK (runK kind okF l k) k t).seen.length ≤ k ∧ (nowK (runK kind okF l k) k t).wrote.length ≤ k := fun t => by
      unfold nowK
      split
      · exact h1 t
      · exact ⟨Nat.zero_le _, Nat.zero_le _⟩
    show (∀ t, ((stepK kind okF (runK kind okF l k) k (opAt l k)).of t).seen.length ≤ k + 1 ∧ ((stepK kind okF (runK kind okF l k) k (opAt l k)).of t).wrote.length ≤ k + 1) ∧ (stepK kind okF (runK kind okF l k) k (opAt l k)).looks.length ≤ k + 1
    generalize runK kind okF l k = s at *
    have hput : ∀ (r : Dl) (u : Int), (r.seen.length ≤ k + 1 ∧ r.wrote.length ≤ k + 1) → ∀ t, (setF s.of u r t).seen.length ≤ k + 1 ∧ (setF s.of u r t).wrote.length ≤ k + 1 := fun r u hr t => by
      unfold setF
      split
      · exact hr
      · have := h1 t; omega
    have hnt := hn (opAt l k).1
    unfold stepK
    split
    · refine ⟨hput _ _ ⟨by simp; omega, by show (nowK s k _).wrote.length ≤ _; omega⟩, ?_⟩
      show (if _ then _ else _ : List Op3).length ≤ _
      split
      · simp; omega
      · omega
    · split
      · exact ⟨hput _ _ ⟨by show (nowK s k _).seen.length ≤ _; omega, by simp; omega⟩, by show s.looks.length ≤ _; omega⟩
      · split
        · split
          · exact ⟨hput _ _ ⟨by show (nowK s k _).seen.length ≤ _; omega, by show (nowK s k _).wrote.length ≤ _; omega⟩, by show s.looks.length ≤ _; omega⟩
          · exact ⟨hput _ _ ⟨by omega, by omega⟩, by show s.looks.length ≤ _; omega⟩
        · exact ⟨hput _ _ ⟨by omega, by omega⟩, by show s.looks.length ≤ _; omega⟩
theorem looks_none (kind : Int) (okF : Kst → Int → Dl → Bool) (l : List Op3) (h4 : kind ≠ 4) : ∀ k, (runK kind okF l k).looks = [] := by
  intro k
  induction k with
  | zero => rfl
  | succ k ih =>
    show (stepK kind okF (runK kind okF l k) k (opAt l k)).looks = []
    unfold stepK
    split
    · show (if _ then _ else _ : List Op3) = _
      rw [if_neg (fun h => h4 h.1)]
      exact ih
    · split
      · exact ih
      · split
        · split
          · exact ih
          · exact ih
        · exact ih
theorem kst_items (kind : Int) (okF : Kst → Int → Dl → Bool) {l : List Op3} (hop : ∀ o ∈ l, isOpB o = true) : ∀ k, k ≤ l.length → ∀ t, ∀ x ∈ ((runK kind okF l k).of t).wrote, 1 ≤ x ∧ x ≤ 6 := by
  intro k
  induction k with
  | zero => intro _ t x hx; cases hx
  | succ k ih =>
    intro hk
    have h1 := ih (by omega)
    have hn : ∀ t, ∀ x ∈ (nowK (runK kind okF l k) k t).wrote, 1 ≤ x ∧ x ≤ 6 := fun t x hx => by
      unfold nowK at hx
      split at hx
      · exact h1 t x hx
      · cases hx
    have ho := hop _ (opAt_mem (show k < l.length by omega))
    show ∀ t, ∀ x ∈ ((stepK kind okF (runK kind okF l k) k (opAt l k)).of t).wrote, 1 ≤ x ∧ x ≤ 6
    generalize runK kind okF l k = s at *
    have hput : ∀ (r : Dl) (u : Int), (∀ x ∈ r.wrote, 1 ≤ x ∧ x ≤ 6) → ∀ t, ∀ x ∈ (setF s.of u r t).wrote, 1 ≤ x ∧ x ≤ 6 := fun r u hr t x hx => by
      unfold setF at hx
      split at hx
      · exact hr x hx
      · exact h1 t x hx
    have hnt := hn (opAt l k).1
    unfold stepK
    split
    · exact hput _ _ hnt
    · split
      · rename_i h2
        refine hput _ _ fun x hx => ?_
        rcases List.mem_append.1 hx with hx | hx
        · exact hnt x hx
        · rw [List.mem_singleton.1 hx]
          have h5 := isOp_pos ho (.inr h2)
          simp only [isOpB, endsB, Bool.and_eq_true] at ho
          have h6 := ho.2
          rw [h2] at h6
          simp at h6
          omega
      · split
        · split
          · exact hput _ _ hnt
          · exact hput _ _ hnt
        · exact hput _ _ hnt
theorem kst_six (kind : Int) (okF : Kst → Int → Dl → Bool) {l : List Op3} (hc : (chk l).2 = 0) : (runK kind okF l l.length).done.length ≤ 6 := by
  have h := run_kOk kind okF hc l.length (Nat.le_refl _)
  exact six_len h.once fun x hx => ⟨(h.comm x hx).2.1, (h.comm x hx).2.2.1⟩
end Go.Proofs.YtccjognnehoodafDoor

namespace Go.Proofs.YtccjognnehoodafDoor

/-- The greatest of a kind, or 0. -/
def IsTop (P : Int → Prop) (r : Int) : Prop := (r = 0 ∨ P r) ∧ ∀ u, P u → u ≤ r
theorem top_uniq {P : Int → Prop} (hp : ∀ u, P u → 1 ≤ u) {r s : Int} (hr : IsTop P r) (hs : IsTop P s) : r = s := by
  rcases hr.1 with e | e
  · rcases hs.1 with e' | e'
    · omega
    · have := hr.2 _ e'; have := hp _ e'; omega
  · rcases hs.1 with e' | e'
    · have := hs.2 _ e; have := hp _ e; omega
    · have := hs.2 _ e; have := hr.2 _ e'; omega
/-- Of those that wrote an item the greatest below a number. -/
def topK (done : List Int) (of : Int → Dl) (item below : Int) : Int := done.foldl (fun f t => if inB (of t).wrote item = true ∧ t < below ∧ f < t then t else f) 0
theorem topK_snoc (done : List Int) (of : Int → Dl) (t item below : Int) : topK (done ++ [t]) of item below = if inB (of t).wrote item = true ∧ t < below ∧ topK done of item below < t then t else topK done of item below := by
  unfold topK
  rw [List.foldl_append]
  rfl
theorem topK_congr {of of' : Int → Dl} {ds : List Int} (h : ∀ t ∈ ds, of t = of' t) (item below : Int) : topK ds of item below = topK ds of' item below := by
  unfold topK
  exact foldl_congr' _ _ fun b x hx => by rw [h x hx]
theorem topK_set {of : Int → Dl} {ds : List Int} {t : Int} (h : t ∉ ds) (r : Dl) (item below : Int) : topK ds (setF of t r) item below = topK ds of item below :=
  topK_congr (of := setF of t r) (of' := of) (fun _ hu => setF_other _ _ fun e => h (e ▸ hu)) item below
theorem who_top {of : Int → Dl} {ds : List Int} {time below : Int} (hb : 1 ≤ below) (h : ∀ t ∈ ds, (of t).ended < time) (item : Int) : whoK ds of item time below = topK ds of item below := by
  unfold whoK topK
  refine foldl_congr' _ _ fun b x hx => ?_
  have := h x hx
  have e : decide (time ≤ (of x).ended) = false := by simp; omega
  rw [e, Bool.or_false, if_neg (show ¬ below = 0 by omega)]
  cases inB (of x).wrote item <;> simp
theorem topK_top (done : List Int) (of : Int → Dl) (item below : Int) : IsTop (fun u => u ∈ done ∧ u < below ∧ inB (of u).wrote item = true) (topK done of item below) := by
  unfold topK
  suffices H : ∀ (d : List Int) (f : Int), let r := d.foldl (fun f t => if inB (of t).wrote item = true ∧ t < below ∧ f < t then t else f) f; f ≤ r ∧ (r = f ∨ (r ∈ d ∧ r < below ∧ inB (of r).wrote item = true)) ∧ ∀ u ∈ d, u < below → inB (of u).wrote item = true → u ≤ r from
    ⟨(H done 0).2.1, fun u hu => (H done 0).2.2 u hu.1 hu.2.1 hu.2.2⟩
  intro d
  induction d with
  | nil => exact fun f => ⟨Int.le_refl _, Or.inl rfl, fun u hu => (by cases hu)⟩
  | cons a d ih =>
    intro f
    dsimp only
    rw [List.foldl_cons]
    obtain ⟨h1, h2, h3⟩ := ih (if inB (of a).wrote item = true ∧ a < below ∧ f < a then a else f)
    refine ⟨?_, ?_, fun u hu hb hw => ?_⟩
    · refine Int.le_trans ?_ h1
      split
      · omega
      · exact Int.le_refl _
    · rcases h2 with h2 | ⟨h2, h4⟩
      · rw [h2]
        split
        · rename_i hc
          exact Or.inr ⟨List.mem_cons_self .., hc.2.1, hc.1⟩
        · exact Or.inl rfl
      · exact Or.inr ⟨List.mem_cons_of_mem _ h2, h4⟩
    · rcases List.mem_cons.1 hu with e | hu
      · refine Int.le_trans ?_ h1
        subst e
        split
        · exact Int.le_refl _
        · rename_i hc
          have : ¬ f < u := fun hf => hc ⟨hw, hb, hf⟩
          omega
      · exact h3 u hu hb hw
/-- Of a rising list the last is the greatest. -/
theorem lastK_top (of : Int → Dl) (item : Int) {p : List Int} (hp : p.Pairwise (· < ·)) (h1 : ∀ u ∈ p, 1 ≤ u) : IsTop (fun u => u ∈ p ∧ inB (of u).wrote item = true) (lastK of p item) := by
  unfold lastK
  suffices H : ∀ (d : List Int) (f : Int), d.Pairwise (· < ·) → (∀ u ∈ d, f < u) → let r := d.foldl (fun f t => if inB (of t).wrote item = true then t else f) f; f ≤ r ∧ (r = f ∨ (r ∈ d ∧ inB (of r).wrote item = true)) ∧ ∀ u ∈ d, inB (of u).wrote item = true → u ≤ r from by
    have := H p 0 hp (fun u hu => by have := h1 u hu; omega)
    exact ⟨this.2.1, fun u hu => this.2.2 u hu.1 hu.2⟩
  intro d
  induction d with
  | nil => exact fun f _ _ => ⟨Int.le_refl _, Or.inl rfl, fun u hu => (by cases hu)⟩
  | cons a d ih =>
    intro f hd hf
    dsimp only
    rw [List.foldl_cons]
    obtain ⟨k1, k2⟩ := List.pairwise_cons.1 hd
    have hfa := hf a (List.mem_cons_self ..)
    obtain ⟨h1, h2, h3⟩ := ih (if inB (of a).wrote item = true then a else f) k2 (fun u hu => by
      split
      · exact k1 u hu
      · exact hf u (List.mem_cons_of_mem _ hu))
    refine ⟨?_, ?_, fun u hu hw => ?_⟩
    · refine Int.le_trans ?_ h1
      split
      · omega
      · exact Int.le_refl _
    · rcases h2 with h2 | ⟨h2, h4⟩
      · rw [h2]
        split
        · rename_i hc
          exact Or.inr ⟨List.mem_cons_self .., hc⟩
        · exact Or.inl rfl
      · exact Or.inr ⟨List.mem_cons_of_mem _ h2, h4⟩
    · rcases List.mem_cons.1 hu with e | hu
      · refine Int.le_trans ?_ h1
        subst e
        rw [if_pos hw]
        exact Int.le_refl _
      · exact h3 u hu hw
/-- Who did not come too late. -/
def okN (s : Kst) (t : Int) (r : Dl) : Bool := !pastK s t r
/-- What is always so of such a run. -/
structure NOkK (s : Kst) : Prop where
  look : ∀ t, s.beg t = true → ∀ e ∈ (s.of t).seen, e.2.2 ≠ t → e ∈ s.looks
  top : ∀ e ∈ s.looks, 1 ≤ e.1 → e.2.2 = topK s.done s.of e.2.1 e.1
theorem nOk0 : NOkK kst0 := ⟨fun _ h => (by cases h), fun _ h => (by cases h)⟩
theorem NOkK.now {s : Kst} (h : NOkK s) (k t : Int) : ∀ e ∈ (nowK s k t).seen, e.2.2 ≠ t → e ∈ s.looks := by
  unfold nowK
  split
  · rename_i hb
    exact h.look t hb
  · intro e he
    cases he
theorem NOkK.stay {s : Kst} (h : NOkK s) {t : Int} (hnd : t ∉ s.done) (r : Dl) (lk : List Op3) (hl : ∀ e ∈ s.looks, e ∈ lk) (hr : ∀ e ∈ r.seen, e.2.2 ≠ t → e ∈ lk)
    (hk : ∀ e ∈ lk, e ∈ s.looks ∨ (1 ≤ e.1 → e.2.2 = topK s.done s.of e.2.1 e.1)) : NOkK ⟨s.done, setF s.of t r, setF s.beg t true, lk⟩ := by
  refine ⟨fun u hu e he hne => ?_, fun e he h1 => ?_⟩
  · show e ∈ lk
    have hu' : setF s.beg t true u = true := hu
    have he' : e ∈ (setF s.of t r u).seen := he
    by_cases e1 : u = t
    · subst e1
      rw [setF_same] at he'
      exact hr e he' hne
    · rw [setF_other _ _ e1] at hu' he'
      exact hl _ (h.look u hu' e he' hne)
  · show e.2.2 = topK s.done (setF s.of t r) e.2.1 e.1
    rw [topK_set hnd]
    rcases hk e he with hh | hh
    · exact h.top e hh h1
    · exact hh h1
theorem NOkK.end_ {s : Kst} (h : NOkK s) {t : Int} (hnd : t ∉ s.done) (r : Dl) (hr : ∀ e ∈ r.seen, e.2.2 ≠ t → e ∈ s.looks) (hok : pastK s t r = false) : NOkK ⟨s.done ++ [t], setF s.of t r, setF s.beg t true, s.looks⟩ := by
  refine ⟨fun u hu e he hne => ?_, fun e he h1 => ?_⟩
  · show e ∈ s.looks
    have hu' : setF s.beg t true u = true := hu
    have he' : e ∈ (setF s.of t r u).seen := he
    by_cases e1 : u = t
    · subst e1
      rw [setF_same] at he'
      exact hr e he' hne
    · rw [setF_other _ _ e1] at hu' he'
      exact h.look u hu' e he' hne
  · show e.2.2 = topK (s.done ++ [t]) (setF s.of t r) e.2.1 e.1
    have he' : e ∈ s.looks := he
    rw [topK_snoc, setF_same, topK_set hnd, if_neg, ← h.top e he' h1]
    rintro ⟨c1, c2, c3⟩
    rw [← h.top e he' h1] at c3
    have : pastK s t r = true := by
      unfold pastK
      rw [List.any_eq_true]
      exact ⟨e, he', by rw [c1, decide_eq_true c2, decide_eq_true c3]; rfl⟩
    rw [this] at hok
    cases hok
theorem vers_next {l : List Op3} {k : Nat} {s : Kst} (h : NOkK s) (hK : KOk l k s) (hc : Calm l) (hk : k < l.length) : NOkK (stepK 4 okN s k (opAt l k)) := by
  have hnd := hK.free hc hk
  have hnow := h.now k (opAt l k).1
  have htime : ∀ t ∈ s.done, (s.of t).ended < (k : Int) := fun t ht => (hK.comm t ht).2.2.2.2.1
  unfold stepK
  split
  · by_cases hw : inB (nowK s k (opAt l k).1).wrote (opAt l k).2.2 = true
    · refine h.stay hnd _ _ (fun e he => ?_) (fun e he hne => ?_) (fun e he => ?_)
      · rw [if_neg (by rw [hw]; simp)]; exact he
      · rw [if_neg (by rw [hw]; simp)]
        rcases List.mem_append.1 he with he | he
        · exact hnow e he hne
        · rw [List.mem_singleton.1 he] at hne
          refine absurd ?_ hne
          unfold fromK
          rw [if_pos hw]
      · rw [if_neg (by rw [hw]; simp)] at he
        exact Or.inl he
    · have hw' : inB (nowK s k (opAt l k).1).wrote (opAt l k).2.2 = false := by simpa using hw
      refine h.stay hnd _ _ (fun e he => ?_) (fun e he hne => ?_) (fun e he => ?_)
      · rw [if_pos ⟨rfl, hw'⟩]; exact List.mem_append_left _ he
      · rw [if_pos ⟨rfl, hw'⟩]
        rcases List.mem_append.1 he with he | he
        · exact List.mem_append_left _ (hnow e he hne)
        · exact List.mem_append_right _ he
      · rw [if_pos ⟨rfl, hw'⟩] at he
        rcases List.mem_append.1 he with he | he
        · exact Or.inl he
        · refine Or.inr fun h1 => ?_
          rw [List.mem_singleton.1 he] at h1 ⊢
          dsimp only at h1 ⊢
          unfold fromK
          rw [if_neg hw, if_neg (show ¬ (4 : Int) = 1 by decide), if_pos rfl]
          exact who_top h1 htime _
  · have stay : NOkK ⟨s.done, setF s.of (opAt l k).1 (nowK s k (opAt l k).1), setF s.beg (opAt l k).1 true, s.looks⟩ := h.stay hnd _ _ (fun e he => he) hnow fun e he => Or.inl he
    split
    · exact h.stay hnd _ _ (fun e he => he) hnow fun e he => Or.inl he
    · split
      · split
        · rename_i hok
          refine h.end_ hnd _ hnow ?_
          unfold okN at hok
          have : pastK s (opAt l k).1 (nowK s k (opAt l k).1) = false := by simpa using hok
          exact this
        · exact stay
      · exact stay
theorem vers_ok {l : List Op3} (h : (chk l).2 = 0) : ∀ k, k ≤ l.length → NOkK (runK 4 okN l k) := by
  obtain ⟨_, h2, h3⟩ := (chk_iff l).1 h
  intro k
  induction k with
  | zero => exact fun _ => nOk0
  | succ k ih => exact fun hk => vers_next (ih (by omega)) (run_kOk 4 okN h k (by omega)) h3 (by omega)
/-- Those that are done, by their numbers. -/
def byNum (done : List Int) : List Int := [1, 2, 3, 4, 5, 6].filter fun t => inB done t
theorem byNum_mem {done : List Int} (h : ∀ t ∈ done, 1 ≤ t ∧ t ≤ 6) (t : Int) : t ∈ byNum done ↔ t ∈ done := by
  unfold byNum inB
  rw [List.mem_filter]
  refine ⟨fun hh => by simpa using hh.2, fun hh => ⟨?_, by simpa using hh⟩⟩
  have := h t hh
  simp
  omega
theorem byNum_rise (done : List Int) : (byNum done).Pairwise (· < ·) := List.Pairwise.sublist (List.filter_sublist ..) (by decide)
/-- AS IF BY THEIR NUMBERS: each that is done saw, and wrote, what it would behind those of lesser numbers that are done. -/
theorem vers_sees {l : List Op3} (h : (chk l).2 = 0) {p q : List Int} {t : Int} (hp : byNum (runK 4 okN l l.length).done = p ++ t :: q) :
    (((runK 4 okN l l.length).of t).seen, ((runK 4 okN l l.length).of t).wrote) = expK t (lastK (runK 4 okN l l.length).of p) (ofL l t) := by
  have hK := run_kOk 4 okN h l.length (Nat.le_refl _)
  have hV := vers_ok h l.length (Nat.le_refl _)
  have hd : ∀ u ∈ (runK 4 okN l l.length).done, 1 ≤ u ∧ u ≤ 6 := fun u hu => ⟨(hK.comm u hu).2.1, (hK.comm u hu).2.2.1⟩
  have ht : t ∈ (runK 4 okN l l.length).done := (byNum_mem hd t).1 (by rw [hp]; simp)
  have hrise := byNum_rise (runK 4 okN l l.length).done
  rw [hp] at hrise
  obtain ⟨r1, r2, r3⟩ := List.pairwise_append.1 hrise
  have hpm : ∀ u, u ∈ p ↔ (u ∈ (runK 4 okN l l.length).done ∧ u < t) := fun u => by
    constructor
    · exact fun hu => ⟨(byNum_mem hd u).1 (by rw [hp]; exact List.mem_append_left _ hu), r3 u hu t (List.mem_cons_self ..)⟩
    · rintro ⟨hu, hlt⟩
      have hm := (byNum_mem hd u).2 hu
      rw [hp] at hm
      rcases List.mem_append.1 hm with hm | hm
      · exact hm
      · rcases List.mem_cons.1 hm with e | hm
        · omega
        · have := (List.pairwise_cons.1 r2).1 u hm
          omega
  have := hK.sees t (hK.comm t ht).1 (lastK (runK 4 okN l l.length).of p) fun e he hne => by
    rw [hV.top e (hV.look t (hK.comm t ht).1 e he hne) (by rw [hK.txs t (hK.comm t ht).1 e he]; exact (hd t ht).1), hK.txs t (hK.comm t ht).1 e he]
    refine top_uniq (fun u hu => (hd u hu.1).1) (topK_top _ _ _ _) ?_
    have h2 := lastK_top (runK 4 okN l l.length).of e.2.1 r1 fun u hu => (hd u ((hpm u).1 hu).1).1
    refine ⟨?_, fun u hu => h2.2 u ⟨(hpm u).2 ⟨hu.1, hu.2.1⟩, hu.2.2⟩⟩
    rcases h2.1 with e' | ⟨e1, e2⟩
    · exact Or.inl e'
    · exact Or.inr ⟨((hpm _).1 e1).1, ((hpm _).1 e1).2, e2⟩
  rw [List.take_length] at this
  exact this
/-- WHO ONLY READS IS ALWAYS DONE, with versions. -/
theorem vers_reader {l : List Op3} (h : (chk l).2 = 0) {t : Int} (ht : (t, 3, 0) ∈ l) (hw : wrL (ofL l t) = []) : t ∈ (runK 4 okN l l.length).done := by
  have := run_reader 4 okN (fun s t r hr => by unfold okN pastK; rw [hr]; simp [inB]) h l.length (Nat.le_refl _) t
  rw [List.take_length] at this
  exact this ht hw
end Go.Proofs.YtccjognnehoodafDoor
