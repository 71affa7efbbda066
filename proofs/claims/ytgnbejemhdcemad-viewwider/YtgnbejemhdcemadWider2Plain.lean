/-
  PROVED HERE: plain facts, with no word of the program: what is the same by odds is so both ways, and so is what is done of it; an order that is found is one of all deals, and it is as it was asked; who has an order by odds has one by view.
  Conditions: none.
-/
import Derived.Test.YtgnbejemhdcemadWiderPlain
import Derived.Test.YtgnbejemhdcemadJustPlain
namespace Go.Proofs.Ytgnbejemhdcemad

theorem Kept.symm {h g : List Op3} (hK : Kept h g) (hg : ∀ o ∈ g, isOpB o = true) : Kept g h := by
  refine ⟨hK.len.symm, deals_symm hK.deals, fun p q hpq hq ho hlt => ?_⟩
  have sp := spot_name hg (deals_symm hK.deals) (show p < g.length by omega)
  have sq := spot_name hg (deals_symm hK.deals) hq
  have bp : spot h g (spot g h p) = p := spot_at (by omega) sp.2.symm
  have bq : spot h g (spot g h q) = q := spot_at hq sq.2.symm
  have := hK.keep (spot g h q) (spot g h p) hlt sp.1 (by rw [name_op sp.2, name_op sq.2, odd_sym]; exact ho)
  rw [bp, bq] at this
  exact this hpq

/-- What is kept of a list, deal by deal; and where an op then stands. -/
def keptL (c : Int → Bool) (l : List Op3) : List Op3 := l.filter fun o => c o.1
def posK (c : Int → Bool) (l : List Op3) (i : Nat) : Nat := (keptL c (l.take i)).length
theorem keptL_split {c : Int → Bool} {l : List Op3} {i : Nat} (hi : i < l.length) (h : c (opAt l i).1 = true) : keptL c l = keptL c (l.take i) ++ opAt l i :: keptL c (l.drop (i + 1)) := by
  conv => lhs; rw [split_at hi]
  unfold keptL
  rw [List.filter_append, List.filter_cons, if_pos h]
theorem pos_at {c : Int → Bool} {l : List Op3} {i : Nat} (hi : i < l.length) (h : c (opAt l i).1 = true) : posK c l i < (keptL c l).length ∧ opAt (keptL c l) (posK c l i) = opAt l i ∧ (keptL c l).take (posK c l i) = keptL c (l.take i) := by
  have e := keptL_split hi h
  refine ⟨by rw [e]; simp [posK], ?_, ?_⟩
  · rw [e]; simp [posK, opAt, List.getD]
  · rw [e]; simp [posK]
theorem ofL_kept {c : Int → Bool} (l : List Op3) {t : Int} (h : c t = true) : ofL (keptL c l) t = ofL l t := by
  unfold ofL keptL
  rw [List.filter_filter]
  refine List.filter_congr fun o _ => ?_
  cases ht : o.1 == t with
  | false => rfl
  | true => rw [beq_iff_eq.1 ht, h]; rfl
theorem ofL_kept_no {c : Int → Bool} (l : List Op3) {t : Int} (h : c t = false) : ofL (keptL c l) t = [] := by
  unfold ofL keptL
  rw [List.filter_filter, List.filter_eq_nil_iff]
  intro o _
  cases ht : o.1 == t with
  | false => simp
  | true => rw [beq_iff_eq.1 ht, h]; simp
theorem pos_name {c : Int → Bool} {l : List Op3} {i : Nat} (hi : i < l.length) (h : c (opAt l i).1 = true) : nameAt (keptL c l) (posK c l i) = nameAt l i := by
  obtain ⟨_, h1, h2⟩ := pos_at hi h
  unfold nameAt nthAt
  rw [h1, h2, ofL_kept _ h]
theorem pos_mono {c : Int → Bool} {l : List Op3} {i j : Nat} (h : i ≤ j) : posK c l i ≤ posK c l j := by
  unfold posK keptL
  exact ((List.take_sublist_take_left h).filter _).length_le
theorem pos_all {c : Int → Bool} {l : List Op3} {k : Nat} (hk : k < (keptL c l).length) : ∃ i, i < l.length ∧ c (opAt l i).1 = true ∧ posK c l i = k := by
  induction l generalizing k with
  | nil => simp [keptL] at hk
  | cons a r ih =>
    cases ha : c a.1 with
    | true =>
      cases k with
      | zero => exact ⟨0, by simp, by simpa [opAt] using ha, by simp [posK, keptL]⟩
      | succ k =>
        have hk' : k < (keptL c r).length := by
          have : keptL c (a :: r) = a :: keptL c r := by unfold keptL; rw [List.filter_cons, if_pos ha]
          rw [this] at hk
          simpa using hk
        obtain ⟨i, i1, i2, i3⟩ := ih hk'
        refine ⟨i + 1, by simpa using i1, by rw [opAt_cons]; exact i2, ?_⟩
        unfold posK at i3 ⊢
        rw [List.take_succ_cons]
        unfold keptL at i3 ⊢
        rw [List.filter_cons, if_pos ha]
        simpa using i3
    | false =>
      have hn : ¬ c a.1 = true := by rw [ha]; simp
      have hk' : k < (keptL c r).length := by
        have : keptL c (a :: r) = keptL c r := by unfold keptL; rw [List.filter_cons, if_neg hn]
        rw [this] at hk
        exact hk
      obtain ⟨i, i1, i2, i3⟩ := ih hk'
      refine ⟨i + 1, by simpa using i1, by rw [opAt_cons]; exact i2, ?_⟩
      unfold posK at i3 ⊢
      rw [List.take_succ_cons]
      unfold keptL at i3 ⊢
      rw [List.filter_cons, if_neg hn]
      exact i3
theorem Kept.kept {h g : List Op3} (hK : Kept h g) (hh : ∀ o ∈ h, isOpB o = true) (hg : ∀ o ∈ g, isOpB o = true) (c : Int → Bool) : Kept (keptL c h) (keptL c g) := by
  have hd : dealsEq (keptL c h) (keptL c g) := fun t h1 h6 => by
    cases ht : c t with
    | true => rw [ofL_kept h ht, ofL_kept g ht]; exact hK.deals t h1 h6
    | false => rw [ofL_kept_no h ht, ofL_kept_no g ht]
  have sub : ∀ (l : List Op3), (∀ o ∈ l, isOpB o = true) → ∀ o ∈ keptL c l, 1 ≤ o.1 ∧ o.1 ≤ 6 := fun l hl o ho => isOp_deal (hl o (List.mem_filter.1 ho).1)
  refine ⟨len_of_deals (sub h hh) (sub g hg) hd, hd, fun p q hpq hq ho hlt => ?_⟩
  obtain ⟨i, i1, i2, rfl⟩ := pos_all (show p < (keptL c h).length by omega)
  obtain ⟨j, j1, j2, rfl⟩ := pos_all hq
  have hij : i < j := by
    rcases Nat.lt_or_ge i j with hl | hl
    · exact hl
    · have := pos_mono (c := c) (l := h) hl
      omega
  rw [(pos_at i1 i2).2.1, (pos_at j1 j2).2.1] at ho
  have hk := hK.keep i j hij j1 ho
  have key : ∀ a, a < h.length → c (opAt h a).1 = true → spot (keptL c h) (keptL c g) (posK c h a) = posK c g (spot h g a) := fun a a1 a2 => by
    obtain ⟨s1, s2⟩ := spot_name hh hK.deals a1
    have s3 : c (opAt g (spot h g a)).1 = true := by rw [name_op s2]; exact a2
    exact spot_at (pos_at s1 s3).1 (by rw [pos_name s1 s3, pos_name a1 a2, s2])
  rw [key i i1 i2, key j j1 j2] at hlt
  have := pos_mono (c := c) (l := g) (show spot h g i ≤ spot h g j by omega)
  omega
theorem comm_deals {h g : List Op3} (hd : dealsEq h g) {t : Int} (h1 : 1 ≤ t) (h6 : t ≤ 6) : commIn h t.toNat = commIn g t.toNat := by
  have e : ∀ l : List Op3, commIn l t.toNat = (ofL l t).any fun o => o.2.1 == 3 := fun l => by
    unfold commIn ofL
    rw [List.any_filter, Int.toNat_of_nonneg (by omega)]
  rw [e, e, hd t h1 h6]
/-- What is the same by odds, what is done of it looks the same. -/
theorem same_sight_done {h g : List Op3} (hh : ∀ o ∈ h, isOpB o = true) (hg : ∀ o ∈ g, isOpB o = true) (hs : sameB h g = true) : sightB (doneL h) (doneL g) = true := by
  have hK := kept_of hh hg hs
  have e1 : doneL h = keptL (fun t => commIn h t.toNat) h := rfl
  have e2 : doneL g = keptL (fun t => commIn h t.toNat) g := by
    unfold doneL keptL
    refine List.filter_congr fun o ho => ?_
    obtain ⟨h1, h6⟩ := isOp_deal (hg o ho)
    exact (comm_deals hK.deals h1 h6).symm
  have sub : ∀ (l : List Op3), (∀ o ∈ l, isOpB o = true) → ∀ o ∈ keptL (fun t => commIn h t.toNat) l, isOpB o = true := fun l hl o ho => hl o (List.mem_filter.1 ho).1
  rw [e1, e2]
  exact (hK.kept hh hg _).sight (sub h hh) (sub g hg)

/-- An order that is found is one of all, and it is as it was asked. -/
theorem tryO_found {ds : List Int} {p : List Int → Bool} : ∀ (f : Nat) (b r : List Int), Begun ds b → tryO ds p f b = some r → p r = true ∧ Begun ds r ∧ r.length = b.length + f := by
  intro f
  induction f with
  | zero =>
    intro b r hB h
    rw [tryO] at h
    split at h
    · obtain rfl := Option.some.inj h
      rename_i hp
      exact ⟨hp, hB, rfl⟩
    · cases h
  | succ f ih =>
    intro b r hB h
    rw [tryO] at h
    obtain ⟨t, ht, h1⟩ := List.exists_of_findSome?_eq_some h
    split at h1
    · cases h1
    · rename_i hb
      obtain ⟨h2, h3, h4⟩ := ih (b ++ [t]) r (hB.snoc ht (by simpa using hb)) h1
      exact ⟨h2, h3, by rw [h4]; simp; omega⟩
theorem wbegun_sort {ds b : List Int} (hd : ds.Pairwise (· < ·)) (hB : Begun ds b) (hl : b.length = ds.length) : sortI b = ds := by
  have hp : b.Perm ds := perm_of_sub b ds hB.once hB.all (by omega)
  refine (sort_iff hd).2 ⟨hl, rise_uniq _ _ (putsL_rise b) hd fun x => ?_⟩
  rw [mem_puts]
  exact hp.mem_iff
/-- The first order by view: of all deals, and along it it looks the same. -/
theorem look_found {d : List Op3} {r : List Int} (h : tryO (dealsL d) (fun o => sightB d (alongL d o)) (dealsL d).length [] = some r) : sortI r = dealsL d ∧ sightB d (alongL d r) = true := by
  obtain ⟨h1, h2, h3⟩ := tryO_found _ _ _ (Begun.nil _) h
  exact ⟨wbegun_sort (dealsL_rise _) h2 (by simpa using h3), h1⟩
/-- Who has an order by odds has one by view. -/
theorem look_ser {d : List Op3} (hd : Doing d) (hc : (chk d).2 = 0) {o : List Int} (h : serOrd d = some o) : ∃ r, tryO (dealsL d) (fun o => sightB d (alongL d o)) (dealsL d).length [] = some r := by
  obtain ⟨h1, h2, _, h4, _⟩ := just_some hd hc h
  have hp := sort_perm h1
  have hs : sightB d (alongL d o) = true := ((kept_of (chk_ops h2) (chk_ops hc) h4).symm (chk_ops hc)).sight (chk_ops hc) (chk_ops h2)
  have := tryO_some (ds := dealsL d) (p := fun o => sightB d (alongL d o)) (dealsL d).length [] o (by simp) ⟨order_once h1, fun x hx => hp.mem_iff.1 hx⟩ hp.length_eq hs
  exact Option.isSome_iff_exists.1 this
end Go.Proofs.Ytgnbejemhdcemad
