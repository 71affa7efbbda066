/-
  PROVED HERE: plain facts, with no word of the program: what chapter 11 tells (as KindPlain has it) is as if deals had come one behind the other, as they end, in the words of lanelaw2's 'right' and 'by'.
  Conditions: none.
-/
import Derived.Test.YtccjognnehoodagKindAsk
import Derived.Test.YtccjognnehoodagKindBy
namespace Go.Proofs.Ytccjognnehoodag

theorem lastK_ops {l : List Op3} {of : Int → Dl} {p : List Int} (h : ∀ t ∈ p, (of t).wrote = wrL (ofL l t)) : lastK of p = lastO l p := by
  funext item
  unfold lastK lastO
  exact foldl_congr' _ _ fun b x hx => by rw [h x hx]
theorem seenL_of {of : Int → Dl} : ∀ {ds : List Int}, (∀ t ∈ ds, ∀ e ∈ (of t).seen, e.1 = t) → ds.Nodup → ∀ t ∈ ds, (seenL of ds).filter (fun o : Op3 => o.1 == t) = (of t).seen := by
  intro ds
  induction ds with
  | nil => intro _ _ t ht; cases ht
  | cons u r ih =>
    intro h hn t ht
    have hn' := List.nodup_cons.1 hn
    have hc : seenL of (u :: r) = (of u).seen ++ seenL of r := by unfold seenL; rw [List.flatMap_cons]
    have hout : ∀ t, t ∉ r → (seenL of r).filter (fun o : Op3 => o.1 == t) = [] := fun t htr => by
      refine List.filter_eq_nil_iff.2 fun e he => ?_
      unfold seenL at he
      obtain ⟨x, hx, hex⟩ := List.mem_flatMap.1 he
      have := h x (List.mem_cons_of_mem _ hx) e hex
      simp
      rw [this]
      exact fun e2 => htr (e2 ▸ hx)
    rw [hc, List.filter_append]
    by_cases e : t = u
    · subst e
      rw [hout t hn'.1, List.append_nil]
      exact List.filter_eq_self.2 fun x hx => by simpa using h t List.mem_cons_self x hx
    · have hr : t ∈ r := by
        rcases List.mem_cons.1 ht with h1 | h1
        · exact absurd h1 e
        · exact h1
      have h0 : (of u).seen.filter (fun o : Op3 => o.1 == t) = [] := List.filter_eq_nil_iff.2 fun x hx => by
        have := h u List.mem_cons_self x hx
        simp
        rw [this]
        exact fun e2 => e e2.symm
      rw [h0, List.nil_append]
      exact ih (fun t ht => h t (List.mem_cons_of_mem _ ht)) hn'.2 t hr
theorem run_right (kind : Int) (okF : Kst → Int → Dl → Bool) {l : List Op3} (h : (chk l).2 = 0) : RightB l (runK kind okF l l.length).done := by
  have hK := run_kOk kind okF h l.length (Nat.le_refl _)
  obtain ⟨_, hop, hcalm⟩ := (chk_iff l).1 h
  refine ⟨hK.once, fun t ht => ?_⟩
  obtain ⟨h1, h2, h3, h4, h5, h6⟩ := hK.comm t ht
  refine endOf_three hop hcalm ?_
  rw [← h6]
  exact opAt_mem (by omega)
/-- What is told of deals in an order is by that order, if each saw what those ahead of it wrote. -/
theorem run_by (kind : Int) (okF : Kst → Int → Dl → Bool) {l : List Op3} (h : (chk l).2 = 0) {ord : List Int} (hn : ord.Nodup) (ho : ∀ t ∈ ord, t ∈ (runK kind okF l l.length).done)
    (hs : ∀ p t q, ord = p ++ t :: q → (((runK kind okF l l.length).of t).seen, ((runK kind okF l l.length).of t).wrote) = expK t (lastK (runK kind okF l l.length).of p) (ofL l t)) :
    ByOk l (seenL (runK kind okF l l.length).of ord) (lastL (runK kind okF l l.length).of ord) ord := by
  have hK := run_kOk kind okF h l.length (Nat.le_refl _)
  have hw : ∀ t ∈ ord, ((runK kind okF l l.length).of t).wrote = wrL (ofL l t) := fun t ht => by
    have := run_wr kind okF h l.length (Nat.le_refl _) t (hK.comm t (ho t ht)).1
    rw [List.take_length] at this
    exact this
  generalize runK kind okF l l.length = s at *
  refine ⟨fun i hi => ?_, ?_⟩
  · have hm : ord.getD i 0 ∈ ord := by rw [List.getD_eq_getElem?_getD, List.getElem?_eq_getElem hi]; exact List.getElem_mem _
    rw [seenL_of (fun t ht => hK.txs t (hK.comm t (ho t ht)).1) hn _ hm]
    have hp : ord = ord.take i ++ ord.getD i 0 :: ord.drop (i + 1) := by
      have h1 : ord.getD i 0 = ord[i] := by simp [List.getD, List.getElem?_eq_getElem hi]
      rw [h1, List.getElem_cons_drop, List.take_append_drop]
    have h2 := hs _ _ _ hp
    rw [lastK_ops fun t ht => hw t (List.mem_of_mem_take ht)] at h2
    exact congrArg Prod.fst h2
  · unfold lastL
    congr 1
    funext i
    unfold lastF6 lastG
    rw [lastK_ops hw]
theorem valid_by {l : List Op3} (h : (chk l).2 = 0) : ByOk l (seenL (runK 1 okV l l.length).of (runK 1 okV l l.length).done) (lastL (runK 1 okV l l.length).of (runK 1 okV l l.length).done) (runK 1 okV l l.length).done :=
  run_by 1 okV h (run_kOk 1 okV h l.length (Nat.le_refl _)).once (fun _ ht => ht) fun _ _ _ hp => valid_sees h hp
end Go.Proofs.Ytccjognnehoodag
