/-
  PROVED HERE: plain facts, with no word of the program: chapter 14's rules, as package versions has them over package course (it knows all deals that ask for anything), answer as that kind of run has it; those that are done, sorted, are those told by their numbers.
  Conditions: none.
  PROVED HERE: slices.IndexFunc and ContainsFunc at a list of deals of package versions, for any closure that answers by each deal. Old memory stays as it was.
  Conditions: what the closure answers is a premise.
-/
import Derived.Test.YtccjognnehoodahGreatMgaw
import Derived.Test.YtccjognnehoodahGreatMgai
import Derived.Test.YtccjognnehoodahGreatMgal
import Derived.Test.YtccjognnehoodahGreatMgax
namespace Go.Proofs.YtccjognnehoodahGreat

def lessQ (q : Crs) (t : Int) : List Int := (sortI q.done).filter fun x => !decide (t ≤ x)
def seesN (q : Crs) (t item : Int) : Int := lastQ q.wrote (lessQ q t) item
def lateB (q : Crs) (t : Int) (x : Op3) : Bool := decide (x.2.2 < t) && inB (q.wrote t) x.2.1
def lateO (q : Crs) (t o : Int) : Bool := decide (t < o) && (q.read o).any (lateB q t)
def fallN (ds : List Int) (q : Crs) (t : Int) : Bool := ds.any (lateO q t)
theorem sorted_rise {ds : List Int} (hn : ds.Nodup) : (sortI ds).Pairwise (· < ·) := by
  have h2 : (sortI ds).Nodup := (sortI_perm ds).nodup_iff.2 hn
  exact ((sortI_sorted ds).and h2).imp fun {a b} hab => by omega
theorem byNum_sort {ds : List Int} (hn : ds.Nodup) (h6 : ∀ t ∈ ds, 1 ≤ t ∧ t ≤ 6) : byNum ds = sortI ds :=
  rise_uniq _ _ (byNum_rise ds) (sorted_rise hn) fun x => by rw [byNum_mem h6, (sortI_perm ds).mem_iff]
/-- What was looked at was seen, by one that asked for something. -/
structure LkIn (l : List Op3) (s : Kst) : Prop where
  seen : ∀ e ∈ s.looks, e ∈ (s.of e.1).seen ∧ s.beg e.1 = true
  begs : ∀ t, s.beg t = true → hasB l t = true
theorem lkIn_step {l : List Op3} {s : Kst} (h : LkIn l s) {k : Nat} (hk : k < l.length) : LkIn l (stepK 4 okN s k (opAt l k)) := by
  have hme : hasB l (opAt l k).1 = true := List.any_eq_true.2 ⟨opAt l k, opAt_mem hk, by simp⟩
  obtain ⟨⟨t, a, i⟩, ho⟩ : ∃ o, opAt l k = o := ⟨_, rfl⟩
  rw [ho] at hme ⊢
  simp only at hme
  have hbg : ∀ u, setF s.beg t true u = true → hasB l u = true := fun u hu => by
    by_cases e : u = t
    · subst e; exact hme
    · rw [setF_other _ _ e] at hu; exact h.begs u hu
  have now : ∀ e ∈ s.looks, e.1 = t → e ∈ (nowK s k t).seen := fun e he e1 => by
    have := h.seen e he
    rw [e1] at this
    unfold nowK
    rw [if_pos this.2]
    exact this.1
  have key : ∀ (r : Dl) (e : Op3), e ∈ s.looks → (∀ e ∈ (nowK s k t).seen, e ∈ r.seen) → e ∈ (setF s.of t r e.1).seen ∧ setF s.beg t true e.1 = true := fun r e he hr => by
    by_cases e1 : e.1 = t
    · have := hr e (now e he e1)
      rw [e1, setF_same, setF_same]
      exact ⟨this, rfl⟩
    · rw [setF_other _ _ e1, setF_other _ _ e1]
      exact h.seen e he
  have stay : LkIn l (stayStep s k t) := ⟨fun e he => key _ e he fun _ h => h, hbg⟩
  unfold stepK
  simp only
  split
  · refine ⟨fun e he => ?_, hbg⟩
    have he' : e ∈ (if (4 : Int) = 4 ∧ inB (nowK s k t).wrote i = false then s.looks ++ [(t, i, fromK 4 s k (nowK s k t) t i)] else s.looks) := he
    have hin : e ∈ s.looks ∨ e = (t, i, fromK 4 s k (nowK s k t) t i) := by
      split at he'
      · rcases List.mem_append.1 he' with h2 | h2
        · exact .inl h2
        · exact .inr (List.mem_singleton.1 h2)
      · exact .inl he'
    show e ∈ (setF s.of t { nowK s k t with seen := (nowK s k t).seen ++ [(t, i, fromK 4 s k (nowK s k t) t i)] } e.1).seen ∧ setF s.beg t true e.1 = true
    rcases hin with h2 | h2
    · exact key _ e h2 fun x hx => List.mem_append_left _ hx
    · rw [h2]
      simp only
      rw [setF_same, setF_same]
      exact ⟨List.mem_append_right _ (List.mem_singleton.2 rfl), rfl⟩
  · split
    · exact ⟨fun e he => key _ e he fun _ h => h, hbg⟩
    · split
      · split
        · exact ⟨fun e he => key _ e he fun _ h => h, hbg⟩
        · exact stay
      · exact stay
theorem lkIn_all (l : List Op3) : ∀ k, k ≤ l.length → LkIn l (runK 4 okN l k) := by
  intro k
  induction k with
  | zero => intro _; exact ⟨fun _ h => (by cases h), fun _ h => (by cases h)⟩
  | succ k ih => intro hk; exact lkIn_step (ih (by omega)) (by omega)
theorem rulesN {l : List Op3} (hc : (chk l).2 = 0) : RulesAt l 4 okN seesN (fallN (dealsL l)) := by
  intro k s q t hkl hsr hK h h1 hnd ht1 ht6
  have hLk : LkIn l s := by rw [hsr]; exact lkIn_all l k hkl
  have hNk : NOkK s := by rw [hsr]; exact vers_ok hc k hkl
  have hof : (stayStep s k t).of t = nowK s k t := by show setF s.of t _ t = _; exact setF_same ..
  have e2 : q.wrote = fun t => (s.of t).wrote := funext h.wrote
  have hpos : ∀ u ∈ s.done, 1 ≤ u := fun u hu => (hK.comm u hu).2.1
  constructor
  · intro item
    unfold seesN seeK lessQ
    rw [if_neg (by decide), if_pos rfl, begQ_done, begQ_wrote, h.done, who_top ht1 (fun i hi => (hK.comm i hi).2.2.2.2.1)]
    have hr : ((sortI s.done).filter fun x => !decide (t ≤ x)).Pairwise (· < ·) := (sorted_rise hK.once).sublist (List.filter_sublist ..)
    have hm : ∀ u, u ∈ ((sortI s.done).filter fun x => !decide (t ≤ x)) ↔ u ∈ s.done ∧ u < t := fun u => by
      rw [List.mem_filter, (sortI_perm s.done).mem_iff]
      simp
    have h3 := lastK_top s.of item hr fun u hu => hpos u ((hm u).1 hu).1
    have h4 : IsTop (fun u => u ∈ s.done ∧ u < t ∧ inB (s.of u).wrote item = true) (lastK s.of ((sortI s.done).filter fun x => !decide (t ≤ x)) item) :=
      ⟨h3.1.imp id fun ⟨a, b⟩ => ⟨((hm _).1 a).1, ((hm _).1 a).2, b⟩, fun u ⟨a, b, c⟩ => h3.2 u ⟨(hm u).2 ⟨a, b⟩, c⟩⟩
    have h5 := top_uniq (fun u hu => hpos u hu.1) h4 (topK_top s.done s.of item t)
    rw [← h5]
    unfold lastQ lastK
    rw [e2]
  · have hne : ∀ o, t < o → (begQ q t).read o = (s.of o).seen := fun o ho => by
      rw [begQ_read]; exact h.read o
    unfold fallN okN pastK
    rw [Bool.not_not, Bool.eq_iff_iff]
    simp only [List.any_eq_true]
    have hw : (begQ q t).wrote t = (nowK s k t).wrote := by rw [h1.wrote t, hof]
    constructor
    · rintro ⟨o, ho, hl⟩
      unfold lateO at hl
      rw [Bool.and_eq_true, decide_eq_true_eq] at hl
      obtain ⟨hto, hl⟩ := hl
      obtain ⟨x, hx, hlx⟩ := List.any_eq_true.1 hl
      rw [hne o hto] at hx
      unfold lateB at hlx
      rw [Bool.and_eq_true, decide_eq_true_eq, hw] at hlx
      have hb : s.beg o = true := by
        cases hbo : s.beg o with
        | true => rfl
        | false =>
          have h0 := h.beg o
          rw [hbo] at h0
          have := of_fresh 4 okN l k o (by rw [← hsr]; exact hbo)
          rw [← hsr] at this
          rw [this] at hx
          cases hx
      have hx1 := hK.txs o hb x hx
      exact ⟨x, hNk.look o hb x hx (by omega), by rw [hlx.2, hx1]; simp [hto, hlx.1]⟩
    · rintro ⟨x, hx, hxx⟩
      rw [Bool.and_eq_true, Bool.and_eq_true, decide_eq_true_eq, decide_eq_true_eq] at hxx
      obtain ⟨a, b, c⟩ := hxx
      obtain ⟨d1, d2⟩ := hLk.seen x hx
      have h7 := hLk.begs _ d2
      obtain ⟨o, ho, hoo⟩ := List.any_eq_true.1 h7
      have h8 := isOp_range (((chk_iff l).1 hc).2.1 o ho)
      have e8 : o.1 = x.1 := by simpa using hoo
      refine ⟨x.1, mem_deals.2 ⟨by omega, by omega, h7⟩, ?_⟩
      unfold lateO
      rw [Bool.and_eq_true, decide_eq_true_eq]
      refine ⟨b, List.any_eq_true.2 ⟨x, by rw [hne _ b]; exact d1, ?_⟩⟩
      unfold lateB
      rw [Bool.and_eq_true, decide_eq_true_eq, hw]
      exact ⟨c, a⟩
/-- What it comes to. -/
theorem vers_out {l : List Op3} (hc : (chk l).2 = 0) : outU 4 okN true l = ((sortI (runQ seesN (fallN (dealsL l)) l l.length).done, (sortI (runQ seesN (fallN (dealsL l)) l l.length).done).flatMap (runQ seesN (fallN (dealsL l)) l l.length).read, (List.range 6).map fun i : Nat => lastQ (runQ seesN (fallN (dealsL l)) l l.length).wrote (sortI (runQ seesN (fallN (dealsL l)) l l.length).done) ((i : Int) + 1)), 0) := by
  have h := crs_at true (rulesN hc) hc
  have hf := cfit_at (rulesN hc) hc l.length (Nat.le_refl _)
  have hK := run_kOk 4 okN hc l.length (Nat.le_refl _)
  have e : ordN true (runQ seesN (fallN (dealsL l)) l l.length).done = sortI (runQ seesN (fallN (dealsL l)) l l.length).done := by
    show (if true = true then byNum _ else _) = _
    rw [if_pos rfl, hf.done]
    exact byNum_sort hK.once fun t ht => ⟨(hK.comm t ht).2.1, (hK.comm t ht).2.2.1⟩
  rw [e] at h
  exact h
end Go.Proofs.YtccjognnehoodahGreat

namespace Go.Proofs.YtccjognnehoodahGreat
open Go.RowKit

set_option maxHeartbeats 4000000 in
theorem index_dealC (l : List Int) (v : Value) (q : Int → Bool) (N : Nat) (C : Array Value) (w : World) (hcall : ∀ (args : Array Value) (W : World), (callFunc N args).run Tryz.prog W = .ok (.enter N args) W) (hI : IsInts w v l) (hlen : l.length ≤ 140737488351)
    (hp : ∀ W : World, Below w.heap.size w W → ∀ e ∈ l, Calls Tryz.prog N (#[.int .i64 e] ++ C) W fun r w' => r = .returned (.bool (q e)) ∧ Below W.heap.size W w') :
    Calls Tryz.prog 106 #[v, .func (.func N) #[] C] w fun r w' => ∃ n : Int, r = .returned (.int .i64 n) ∧ FirstIC l q n ∧ Below w.heap.size w w' := by
  have HI2 : Hid (IsInts w v l) := hI
  obtain ⟨ad, b, off, cap, rfl, ha, _, hbB, hops⟩ := hI
  have HO : Hid (∀ W, Below w.heap.size w W → ∀ k, k < l.length → ad = some ⟨b, off, none⟩ ∧ W.cell? ⟨b, off + k, none⟩ = some (.int .i64 (l.getD k 0))) := fun W hW k hk => ⟨ha (by omega), by
    have hb : b < w.heap.size := by
      rcases hbB with h | h
      · exact h
      · subst h; simp at hk
    exact (hW.cell (p := ⟨b, off + k, none⟩) hb).trans (hops k hk)⟩
  have HP : Hid (∀ W : World, Below w.heap.size w W → ∀ e ∈ l, Calls Tryz.prog N (#[.int .i64 e] ++ C) W fun r w' => r = .returned (.bool (q e)) ∧ Below W.heap.size W w') := hp
  clear ha hbB hops hp HI2
  go_enter Tryz.func106, Tryz.ntmps106
  go_wp2
  go_loopw [8] (fun v8 wr => ∃ k : Nat, k ≤ l.length ∧ v8 = .int .i64 k ∧ (l.take k).any q = false ∧ Below w.heap.size w wr) (fun v8 _ => l.length - (intOf v8).toNat)
  case atStart => exact ⟨0, Nat.zero_le _, rfl, by simp, Below.refl _ _⟩
  case round =>
    obtain ⟨k, hk, rfl, hno, hbel⟩ := hrel
    have HNO : Hid ((l.take k).any q = false) := hno
    clear hno
    have hsz := hbel.size
    by_cases hlt : k < l.length
    · have hlt' : (k : Int) < (l.length : Int) := by omega
      obtain ⟨rfl, c0⟩ := HO.out wr hbel k hlt
      obtain ⟨t, ho⟩ : ∃ o : Int, l.getD k 0 = o := ⟨_, rfl⟩
      rw [ho] at c0
      have hmem : t ∈ l := by rw [← ho]; exact getD_memC hlt
      have HT : Hid (l.take (k + 1) = l.take k ++ [t]) := by
        show l.take (k + 1) = l.take k ++ [t]
        rw [List.take_succ_eq_append_getElem hlt, ← ho]; simp [List.getD, List.getElem?_eq_getElem hlt]
      have HM : Hid (t ∈ l) := hmem
      have HG : Hid (l.getD k 0 = t) := ho
      clear ho HO hmem
      cases hq : q t with
      | false =>
        have HQ : Hid (q t = false) := hq
        have HC : Hid (Calls Tryz.prog N (#[.int .i64 t] ++ C) wr fun r w' => r = .returned (.bool false) ∧ Below wr.heap.size wr w') := hq ▸ HP.out wr hbel _ HM.out
        clear hq
        go_wp2_with fail
        refine HC.out.mono ?_
        rintro e w1 ⟨rfl, hb1⟩
        go_wp2_with fail
        go_roundw
        case rel => exact ⟨k + 1, by omega, by go_num, noneI_snocC HT.out HNO.out HQ.out, hbel.trans (hb1.mono hsz)⟩
        case measure => simp [intOf]; omega
      | true =>
        have HQ : Hid (q t = true) := hq
        have HC : Hid (Calls Tryz.prog N (#[.int .i64 t] ++ C) wr fun r w' => r = .returned (.bool true) ∧ Below wr.heap.size wr w') := hq ▸ HP.out wr hbel _ HM.out
        clear hq
        go_wp2_with fail
        refine HC.out.mono ?_
        rintro e w1 ⟨rfl, hb1⟩
        go_wp2_with fail
        go_ret
        exact ⟨_, rfl, FirstIC.some hlt HG.out HQ.out HNO.out, hbel.trans (hb1.mono hsz)⟩
    · have hlt' : ¬ (k : Int) < (l.length : Int) := by omega
      go_wp2_with fail
      go_ret
      refine ⟨_, rfl, FirstIC.none ?_, hbel⟩
      have h0 := HNO.out
      rw [List.take_of_length_le (by omega)] at h0
      exact h0
theorem contains_dealC (l : List Int) (v : Value) (q : Int → Bool) (N : Nat) (C : Array Value) (w : World) (hcall : ∀ (args : Array Value) (W : World), (callFunc N args).run Tryz.prog W = .ok (.enter N args) W) (hI : IsInts w v l) (hlen : l.length ≤ 140737488351)
    (hp : ∀ W : World, Below w.heap.size w W → ∀ e ∈ l, Calls Tryz.prog N (#[.int .i64 e] ++ C) W fun r w' => r = .returned (.bool (q e)) ∧ Below W.heap.size W w') :
    Calls Tryz.prog 70 #[v, .func (.func N) #[] C] w fun r w' => r = .returned (.bool (l.any q)) ∧ Below w.heap.size w w' := by
  have HC : Hid (Calls Tryz.prog 106 #[v, .func (.func N) #[] C] w fun r w' => ∃ n : Int, r = .returned (.int .i64 n) ∧ FirstIC l q n ∧ Below w.heap.size w w') := index_dealC l v q N C w hcall hI hlen hp
  clear hp hI hcall
  go_enter Tryz.func70, Tryz.ntmps70
  go_wp2_with (go_at_call 106; refine HC.out.mono ?_; rintro e w1 ⟨n, rfl, hn, hb1⟩; have hn1 := hn.sign; clear hn)
  all_goals go_ret
  all_goals exact ⟨ret_bool (by simp_all), hb1⟩
end Go.Proofs.YtccjognnehoodahGreat
