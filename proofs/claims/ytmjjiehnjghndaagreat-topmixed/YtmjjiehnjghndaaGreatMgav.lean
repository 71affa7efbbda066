/-
  PROVED HERE: plain facts, with no word of the program: lists that are the same but for what may change places look the same; where there is an order of which something is so one is found.
  Conditions: none.
  (Of these, what the claim wants: the rest was left out.)
  PROVED HERE: plain facts, with no word of the program: what a list of ops comes to when it is played, and what its Reads read; who looks the same comes to the same.
  Conditions: none.
  (Of these, what the claim wants: the rest was left out.)
-/
import Derived.Test.YtmjjiehnjghndaaGreatMgak
import Derived.Test.YtmjjiehnjghndaaGreatMgas
namespace Go.Proofs.YtmjjiehnjghndaaGreat

/-- Two lists are the same but for what may change places. -/
structure Kept (h g : List Op3) : Prop where
  len : h.length = g.length
  deals : dealsEq h g
  keep : ∀ i j, i < j → j < h.length → oddB (opAt h i) (opAt h j) = true → ¬ spot h g j < spot h g i
theorem kept_of {h g : List Op3} (hh : ∀ o ∈ h, isOpB o = true) (hg : ∀ o ∈ g, isOpB o = true) (hs : sameB h g = true) : Kept h g := by
  simp only [sameB, Bool.and_eq_true, beq_iff_eq, Bool.not_eq_true'] at hs
  obtain ⟨⟨h1, h2⟩, h3⟩ := hs
  have hd := deals_of_named (fun o ho => isOp_deal (hh o ho)) (fun o ho => isOp_deal (hg o ho)) h1 ((namedB_iff h g).1 h2)
  refine ⟨h1, hd, fun i j hij hj ho hlt => ?_⟩
  have hm : ((i : Int), (j : Int)) ∈ pairsL h := mem_pairs.2 ⟨i, j, hij, hj, ho, rfl⟩
  have := List.any_eq_false.1 h3 _ hm
  exact this (by simpa [turnedB] using hlt)
theorem spot_name {h g : List Op3} (hh : ∀ o ∈ h, isOpB o = true) (hd : dealsEq h g) {i : Nat} (hi : i < h.length) : spot h g i < g.length ∧ nameAt g (spot h g i) = nameAt h i := by
  obtain ⟨k, k1, k2⟩ := named_of_deals (fun o ho => isOp_deal (hh o ho)) hd i hi
  have : spot h g i = k := by unfold spot; rw [place_name k1 k2]; rfl
  rw [this]; exact ⟨k1, k2⟩
theorem spot_inj {h g : List Op3} (hh : ∀ o ∈ h, isOpB o = true) (hd : dealsEq h g) {i j : Nat} (hi : i < h.length) (hj : j < h.length) (he : spot h g i = spot h g j) : i = j := by
  have h1 := (spot_name hh hd hi).2
  have h2 := (spot_name hh hd hj).2
  rw [he, h2] at h1
  exact name_inj hi hj h1.symm
theorem spot_all {h g : List Op3} (hg : ∀ o ∈ g, isOpB o = true) (hd : dealsEq h g) {k : Nat} (hk : k < g.length) : ∃ i, i < h.length ∧ spot h g i = k ∧ nameAt h i = nameAt g k := by
  obtain ⟨i, i1, i2⟩ := named_of_deals (fun o ho => isOp_deal (hg o ho)) (deals_symm hd) k hk
  refine ⟨i, i1, ?_, i2⟩
  unfold spot; rw [place_name hk i2.symm]; rfl
theorem nth_lt {l : List Op3} {i j : Nat} (hij : i < j) (hj : j < l.length) (he : (opAt l i).1 = (opAt l j).1) : nthAt l i < nthAt l j := by
  have h1 := nth_mono (Nat.le_of_lt hij) he
  rcases Nat.lt_or_eq_of_le h1 with h2 | h2
  · exact h2
  · have p1 := placeOf_at l i (by omega)
    have p2 := placeOf_at l j hj
    rw [he, h2, p2] at p1
    have := Option.some.inj p1
    omega
/-- Two ops of one item, one of them a Write, keep their order. -/
theorem Kept.lt {h g : List Op3} (hK : Kept h g) (hh : ∀ o ∈ h, isOpB o = true) {i j : Nat} (hij : i < j) (hj : j < h.length) (hx : (opAt h i).2.2 = (opAt h j).2.2) (hw : (opAt h i).2.1 = 2 ∨ (opAt h j).2.1 = 2) : spot h g i < spot h g j := by
  have hne : spot h g i ≠ spot h g j := fun e => by have := spot_inj hh hK.deals (by omega) hj e; omega
  by_cases hd : (opAt h i).1 = (opAt h j).1
  · have hi' := spot_name hh hK.deals (show i < h.length by omega)
    have hj' := spot_name hh hK.deals hj
    obtain ⟨a1, a2⟩ := name_parts hi'.2
    obtain ⟨b1, b2⟩ := name_parts hj'.2
    rcases Nat.lt_or_ge (spot h g i) (spot h g j) with h1 | h1
    · exact h1
    · have h2 := nth_mono h1 (by rw [a1, b1]; exact hd.symm)
      rw [a2, b2] at h2
      have := nth_lt hij hj hd
      omega
  · have ho : oddB (opAt h i) (opAt h j) = true := by
      unfold oddB
      simp only [Bool.and_eq_true, bne_iff_ne, beq_iff_eq, Bool.or_eq_true]
      exact ⟨hd, hx, hw⟩
    have := hK.keep i j hij hj ho
    omega
theorem wrTo_of {l : List Op3} {x : Int} : ∀ {k j : Nat}, j < k → (opAt l j).2.1 = 2 → (opAt l j).2.2 = x → (∀ i, j < i → i < k → ¬ ((opAt l i).2.1 = 2 ∧ (opAt l i).2.2 = x)) → wrTo l x k = some j := by
  intro k
  induction k with
  | zero => intro j h; omega
  | succ k ih =>
    intro j hj h1 h2 h3
    rcases Nat.lt_or_ge j k with e | e
    · rw [wrTo_pass (h3 k e (by omega))]
      exact ih e h1 h2 fun i i1 i2 => h3 i i1 (by omega)
    · obtain rfl : j = k := by omega
      exact wrTo_hit h1 h2
theorem wrTo_no {l : List Op3} {x : Int} : ∀ {k : Nat}, (∀ i, i < k → ¬ ((opAt l i).2.1 = 2 ∧ (opAt l i).2.2 = x)) → wrTo l x k = none := by
  intro k
  induction k with
  | zero => intro _; rfl
  | succ k ih =>
    intro h
    rw [wrTo_pass (h k (by omega))]
    exact ih fun i hi => h i (by omega)
/-- The Write that was last of an item ahead of some place stands where its name stands. -/
theorem Kept.wr {h g : List Op3} (hK : Kept h g) (hh : ∀ o ∈ h, isOpB o = true) (hg : ∀ o ∈ g, isOpB o = true) {x : Int} {i k : Nat} (hi : i ≤ h.length) (hk : k ≤ g.length)
    (hcut : ∀ j, j < h.length → (opAt h j).2.1 = 2 → (opAt h j).2.2 = x → (j < i ↔ spot h g j < k)) : lastW h i x = lastW g k x := by
  cases ha : wrTo h x i with
  | none =>
    have hn := wrTo_none ha
    rw [lastW_none ha, lastW_none]
    refine wrTo_no fun m hm hw => ?_
    obtain ⟨j, j1, j2, j3⟩ := spot_all hg hK.deals (show m < g.length by omega)
    have hop := (name_parts j3).1
    exact hn j ((hcut j j1 (by rw [hop]; exact hw.1) (by rw [hop]; exact hw.2)).2 (by omega)) (by rw [hop]; exact hw)
  | some a =>
    obtain ⟨a1, a2, a3, a4⟩ := wrTo_some ha
    have hs := spot_name hh hK.deals (show a < h.length by omega)
    have hop := (name_parts hs.2).1
    rw [lastW_some ha, lastW_some (wrTo_of (j := spot h g a) ((hcut a (by omega) a2 a3).1 a1) (by rw [hop]; exact a2) (by rw [hop]; exact a3) fun m m1 m2 hw => ?_), hs.2]
    obtain ⟨j, j1, j2, j3⟩ := spot_all hg hK.deals (show m < g.length by omega)
    have hop2 := (name_parts j3).1
    have hw2 : (opAt h j).2.1 = 2 ∧ (opAt h j).2.2 = x := by rw [hop2]; exact hw
    have hji := (hcut j j1 hw2.1 hw2.2).2 (by omega)
    rcases Nat.lt_trichotomy j a with e | e | e
    · have := hK.lt hh e (by omega) (by rw [hw2.2, a3]) (.inl hw2.1)
      omega
    · subst e; omega
    · exact a4 j e hji hw2
theorem Kept.sight {h g : List Op3} (hK : Kept h g) (hh : ∀ o ∈ h, isOpB o = true) (hg : ∀ o ∈ g, isOpB o = true) : sightB h g = true := by
  refine sightB_iff.2 ⟨hK.len.symm, fun k hk => seenB_iff.2 ?_, leftB_iff.2 fun x hx => ?_⟩
  · obtain ⟨i, i1, i2, i3⟩ := spot_all hg hK.deals hk
    refine ⟨i, i1, i3, ?_⟩
    have hop := (name_parts i3).1
    unfold srcN
    rw [hop]
    by_cases hr : (opAt g k).2.1 = 1
    · rw [if_pos hr, if_pos hr]
      refine hK.wr hh hg (by omega) (by omega) fun j hj h2 hx => ?_
      have hxe : (opAt h j).2.2 = (opAt h i).2.2 := by rw [hx, hop]
      constructor
      · intro hji
        rw [← i2]
        exact hK.lt hh hji i1 hxe (.inl h2)
      · intro hlt
        rcases Nat.lt_trichotomy j i with e | e | e
        · exact e
        · subst e; omega
        · have := hK.lt hh e hj hxe.symm (.inr h2)
          omega
    · rw [if_neg hr, if_neg hr]
  · refine hK.wr hh hg (Nat.le_refl _) (Nat.le_refl _) fun j hj _ _ => ⟨fun _ => (spot_name hh hK.deals hj).1, fun _ => hj⟩
theorem same_sight {h g : List Op3} (hh : ∀ o ∈ h, isOpB o = true) (hg : ∀ o ∈ g, isOpB o = true) (hs : sameB h g = true) : sightB h g = true := (kept_of hh hg hs).sight hh hg
end Go.Proofs.YtmjjiehnjghndaaGreat

namespace Go.Proofs.YtmjjiehnjghndaaGreat

/-- What the items are, and what each deal has read, behind the first k ops. -/
def stTo (d : List Op3) : Nat → (Int → Int) × (Int → Int)
  | 0 => (fun _ => 0, fun _ => 0)
  | k + 1 =>
    (fun x => if (opAt d k).2.1 = 2 ∧ (opAt d k).2.2 = x then (7 * (opAt d k).1 + ((nthAt d k : Int) + 1) + (stTo d k).2 (opAt d k).1) % 1000003 else (stTo d k).1 x,
     fun t => if (opAt d k).2.1 = 1 ∧ (opAt d k).1 = t then (stTo d k).2 t + (stTo d k).1 (opAt d k).2.2 else (stTo d k).2 t)
def valTo (d : List Op3) (k : Nat) (x : Int) : Int := (stTo d k).1 x
def sumTo (d : List Op3) (k : Nat) (t : Int) : Int := (stTo d k).2 t
/-- What an op writes, and what one reads. -/
def wrote (d : List Op3) (k : Nat) : Int := (7 * (opAt d k).1 + ((nthAt d k : Int) + 1) + sumTo d k (opAt d k).1) % 1000003
def readV (d : List Op3) (k : Nat) : Int := valTo d k (opAt d k).2.2
theorem sumTo_zero (d : List Op3) (t : Int) : sumTo d 0 t = 0 := rfl
theorem valTo_hit {d : List Op3} {k : Nat} {x : Int} (h1 : (opAt d k).2.1 = 2) (h2 : (opAt d k).2.2 = x) : valTo d (k + 1) x = wrote d k := if_pos ⟨h1, h2⟩
theorem valTo_pass {d : List Op3} {k : Nat} {x : Int} (h : ¬ ((opAt d k).2.1 = 2 ∧ (opAt d k).2.2 = x)) : valTo d (k + 1) x = valTo d k x := if_neg h
theorem sumTo_hit {d : List Op3} {k : Nat} {t : Int} (h1 : (opAt d k).2.1 = 1) (h2 : (opAt d k).1 = t) : sumTo d (k + 1) t = sumTo d k t + readV d k := if_pos ⟨h1, h2⟩
theorem sumTo_pass {d : List Op3} {k : Nat} {t : Int} (h : ¬ ((opAt d k).2.1 = 1 ∧ (opAt d k).1 = t)) : sumTo d (k + 1) t = sumTo d k t := if_neg h
theorem wrote_bound (d : List Op3) (k : Nat) : 0 ≤ wrote d k ∧ wrote d k < 1000003 := ⟨Int.emod_nonneg _ (by decide), Int.emod_lt_of_pos _ (by decide)⟩
theorem valTo_wr (d : List Op3) (x : Int) : ∀ k, valTo d k x = match wrTo d x k with | none => 0 | some j => wrote d j := by
  intro k
  induction k with
  | zero => rfl
  | succ k ih =>
    by_cases h : (opAt d k).2.1 = 2 ∧ (opAt d k).2.2 = x
    · rw [valTo_hit h.1 h.2, wrTo_hit h.1 h.2]
    · rw [valTo_pass h, wrTo_pass h, ih]
theorem valTo_none {d : List Op3} {x : Int} {k : Nat} (h : wrTo d x k = none) : valTo d k x = 0 := by rw [valTo_wr, h]
theorem valTo_some {d : List Op3} {x : Int} {k j : Nat} (h : wrTo d x k = some j) : valTo d k x = wrote d j := by rw [valTo_wr, h]
theorem valTo_bound (d : List Op3) (k : Nat) (x : Int) : 0 ≤ valTo d k x ∧ valTo d k x < 1000003 := by
  cases h : wrTo d x k with
  | none => rw [valTo_none h]; decide
  | some j => rw [valTo_some h]; exact wrote_bound d j
theorem sumTo_bound (d : List Op3) (t : Int) : ∀ k : Nat, 0 ≤ sumTo d k t ∧ sumTo d k t ≤ (k : Int) * 1000003 := by
  intro k
  induction k with
  | zero => rw [sumTo_zero]; omega
  | succ k ih =>
    by_cases h : (opAt d k).2.1 = 1 ∧ (opAt d k).1 = t
    · rw [sumTo_hit h.1 h.2]
      have := valTo_bound d k (opAt d k).2.2
      unfold readV
      omega
    · rw [sumTo_pass h]
      omega
/-- What a deal has read with its first n ops. -/
def sumN (d : List Op3) (t : Int) : Nat → Int
  | 0 => 0
  | n + 1 => sumN d t n + match placeOf d t n with | none => 0 | some p => if (opAt d p).2.1 = 1 then readV d p else 0
theorem ofL_take_succ {d : List Op3} {k : Nat} (hk : k < d.length) (t : Int) : (ofL (d.take (k + 1)) t).length = (ofL (d.take k) t).length + if (opAt d k).1 = t then 1 else 0 := by
  rw [List.take_succ_eq_append_getElem hk, ofL_append, ofL_cons, List.length_append]
  have : d[k] = opAt d k := by simp [opAt, List.getD, List.getElem?_eq_getElem hk]
  rw [this]
  split <;> simp [ofL]
theorem sum_nth {d : List Op3} (t : Int) : ∀ k, k ≤ d.length → sumTo d k t = sumN d t (ofL (d.take k) t).length := by
  intro k
  induction k with
  | zero => intro _; simp [ofL, sumN, sumTo_zero]
  | succ k ih =>
    intro hk
    rw [ofL_take_succ (by omega)]
    by_cases ht : (opAt d k).1 = t
    · rw [if_pos ht, sumN]
      have hp := placeOf_at d k (by omega)
      have hn : nthAt d k = (ofL (d.take k) t).length := by unfold nthAt; rw [ht]
      rw [ht, hn] at hp
      rw [hp, ← ih (by omega)]
      by_cases hr : (opAt d k).2.1 = 1
      · rw [sumTo_hit hr ht]; simp [hr]
      · rw [sumTo_pass fun hh => hr hh.1]; simp [hr]
    · rw [if_neg ht, sumTo_pass fun hh => ht hh.2, ih (by omega)]; rfl
theorem sight_parts {h g : List Op3} (hh : ∀ o ∈ h, isOpB o = true) (hg : ∀ o ∈ g, isOpB o = true) (hs : sightB h g = true) : dealsEq h g ∧ (∀ i, i < h.length → srcN h i = srcN g (spot h g i)) ∧ ∀ x : Nat, x < 7 → lastW h h.length x = lastW g g.length x := by
  obtain ⟨h1, h2, h3⟩ := sightB_iff.1 hs
  have hd := ((views_sight hh hg).2 hs).1
  refine ⟨hd, fun i hi => ?_, leftB_iff.1 h3⟩
  have hsp := spot_name hh hd hi
  obtain ⟨j, j1, j2, j3⟩ := seenB_iff.1 (h2 _ hsp.1)
  rw [name_inj j1 hi (j2.trans hsp.2)] at j3
  exact j3
theorem wr_same {h g : List Op3} (hh : ∀ o ∈ h, isOpB o = true) (hg : ∀ o ∈ g, isOpB o = true) (hd : dealsEq h g) {x : Int} {i k : Nat} (hi : i ≤ h.length) (hk : k ≤ g.length) (he : lastW h i x = lastW g k x) (hw : ∀ a, a < i → (opAt h a).2.1 = 2 → wrote h a = wrote g (spot h g a)) : valTo h i x = valTo g k x := by
  cases ha : wrTo h x i with
  | none =>
    cases hb : wrTo g x k with
    | none => rw [valTo_none ha, valTo_none hb]
    | some b =>
      rw [lastW_none ha, lastW_some hb] at he
      exact absurd he.symm (name_ne hg (by have := (wrTo_some hb).1; omega))
  | some a =>
    obtain ⟨a1, a2, _⟩ := wrTo_some ha
    cases hb : wrTo g x k with
    | none =>
      rw [lastW_some ha, lastW_none hb] at he
      exact absurd he (name_ne hh (by omega))
    | some b =>
      have b1 := (wrTo_some hb).1
      rw [lastW_some ha, lastW_some hb] at he
      have hsp := spot_name hh hd (show a < h.length by omega)
      have hb2 : spot h g a = b := name_inj hsp.1 (by omega) (hsp.2.trans he)
      rw [valTo_some ha, valTo_some hb, hw a a1 a2, hb2]
theorem sumN_same {h g : List Op3} (hh : ∀ o ∈ h, isOpB o = true) (hd : dealsEq h g) {t : Int} {i : Nat} (hi : i ≤ h.length) (hr : ∀ p, p < i → (opAt h p).2.1 = 1 → readV h p = readV g (spot h g p)) : ∀ n, n ≤ (ofL (h.take i) t).length → sumN h t n = sumN g t n := by
  intro n
  induction n with
  | zero => intro _; rfl
  | succ n ih =>
    intro hn
    rw [sumN, sumN, ih (by omega)]
    congr 1
    have hlt : n < (ofL (h.take i) t).length := by omega
    have hget := List.getElem?_eq_getElem hlt
    obtain ⟨p, p1, p2, p3⟩ := nth_some (h.take i) t n _ hget
    have hpi : p < i := by rw [List.length_take] at p1; omega
    have hop : opAt (h.take i) p = opAt h p := by simp [opAt, List.getD, hpi]
    have hpt : (opAt h p).1 = t := by
      have hm := List.mem_of_getElem? hget
      have := (List.mem_filter.1 hm).2
      rw [← p2, hop] at this
      simpa using this
    have hnp : nthAt h p = n := by
      rw [← p3]
      unfold nthAt
      rw [hop, List.take_take, Nat.min_eq_left (Nat.le_of_lt hpi)]
    have hph := placeOf_at h p (by omega)
    rw [hpt, hnp] at hph
    have hsp := spot_name hh hd (show p < h.length by omega)
    obtain ⟨q1, q2⟩ := name_parts hsp.2
    have hpg := placeOf_at g (spot h g p) hsp.1
    rw [q1, q2, hpt, hnp] at hpg
    rw [hph, hpg]
    simp only [q1]
    by_cases h1 : (opAt h p).2.1 = 1
    · rw [if_pos h1, if_pos h1]; exact hr p hpi h1
    · rw [if_neg h1, if_neg h1]
/-- Who looks the same writes and reads the same. -/
theorem play_at {h g : List Op3} (hh : ∀ o ∈ h, isOpB o = true) (hg : ∀ o ∈ g, isOpB o = true) (hs : sightB h g = true) : ∀ i, i < h.length → ((opAt h i).2.1 = 1 → readV h i = readV g (spot h g i)) ∧ ((opAt h i).2.1 = 2 → wrote h i = wrote g (spot h g i)) := by
  obtain ⟨hd, hsrc, _⟩ := sight_parts hh hg hs
  intro i
  induction i using Nat.strongRecOn with
  | ind i ih =>
    intro hi
    have hsp := spot_name hh hd hi
    obtain ⟨q1, q2⟩ := name_parts hsp.2
    constructor
    · intro h1
      unfold readV
      rw [q1]
      have he := hsrc i hi
      unfold srcN at he
      rw [q1, if_pos h1, if_pos h1] at he
      exact wr_same hh hg hd (by omega) (by omega) he fun a ha h2 => (ih a ha (by omega)).2 h2
    · intro _
      unfold wrote
      rw [q1, q2]
      congr 1
      congr 1
      rw [sum_nth _ i (by omega), sum_nth _ (spot h g i) (by omega)]
      have e : (ofL (g.take (spot h g i)) (opAt h i).1).length = (ofL (h.take i) (opAt h i).1).length := by
        have := q2
        unfold nthAt at this
        rw [q1] at this
        exact this
      rw [e]
      exact sumN_same hh hd (by omega) (fun p hp h1 => (ih p hp (by omega)).1 h1) _ (Nat.le_refl _)
/-- Who looks the same comes to the same. -/
theorem play_same {h g : List Op3} (hh : ∀ o ∈ h, isOpB o = true) (hg : ∀ o ∈ g, isOpB o = true) (hs : sightB h g = true) {x : Int} (h1 : 1 ≤ x) (h6 : x ≤ 6) : valTo h h.length x = valTo g g.length x := by
  obtain ⟨hd, _, hl⟩ := sight_parts hh hg hs
  have he := hl x.toNat (by omega)
  rw [show ((x.toNat : Nat) : Int) = x by omega] at he
  exact wr_same hh hg hd (Nat.le_refl _) (Nat.le_refl _) he fun a ha h2 => (play_at hh hg hs a ha).2 h2
/-- What the items are at last. -/
def valsL (d : List Op3) : List Int := (List.range 6).map fun (j : Nat) => valTo d d.length ((j : Int) + 1)
theorem vals_same {h g : List Op3} (hh : ∀ o ∈ h, isOpB o = true) (hg : ∀ o ∈ g, isOpB o = true) (hs : sightB h g = true) : valsL h = valsL g := by
  unfold valsL
  refine List.map_congr_left fun j hj => ?_
  have := List.mem_range.1 hj
  exact play_same hh hg hs (by omega) (by omega)
/-- What each Read reads, in order, among the first k. -/
def seenTo (d : List Op3) : Nat → List Int
  | 0 => []
  | k + 1 => if (opAt d k).2.1 = 1 then seenTo d k ++ [readV d k] else seenTo d k
theorem seenTo_len (d : List Op3) (k : Nat) : (seenTo d k).length ≤ k := by
  induction k with
  | zero => exact Nat.le_refl _
  | succ k ih =>
    rw [seenTo]
    split
    · simp; omega
    · omega
end Go.Proofs.YtmjjiehnjghndaaGreat
