/-
  PROVED HERE: plain facts, with no word of the program: what chapter 13's Run tells, and what chapter 12's tells where nobody is between, is as if deals had come one behind the other by some order, in the words of lanelaw2's 'some'.
  Conditions: none.
  PROVED HERE: lanesame.Outcome says yes of two outcomes that hold the same lists. Old memory stays as it was.
  Conditions: the lists are short.
-/
import Derived.Test.YtccjognnehoodagMgax
import Derived.Test.YtccjognnehoodagMgba
import Derived.Test.YtccjognnehoodagMgbc
import Derived.Test.YtccjognnehoodagMgbe
import Derived.Test.YtccjognnehoodagMgat
import Derived.Test.YtccjognnehoodagMgac
import Derived.Test.YtccjognnehoodagMgah
import Derived.Test.YtccjognnehoodagMgae
import Derived.Deep.QuietTactic
import Derived.Deep.Cut
import Derived.BigQuiet
import Derived.WalkSmall
namespace Go.Proofs.Ytccjognnehoodag

theorem now_rd {l : List Op3} {k : Nat} {s : Kst} (h : ∀ t, s.beg t = true → (s.of t).seen.map (fun o => o.2.1) = rdL (ofL (l.take k) t)) (hK : KOk l k s) (t : Int) : (nowK s k t).seen.map (fun o => o.2.1) = rdL (ofL (l.take k) t) := by
  unfold nowK
  split
  · rename_i hb; exact h t hb
  · rename_i hb
    rw [hK.fresh t (by simpa using hb)]
    rfl
theorem rd_next {kind : Int} {okF : Kst → Int → Dl → Bool} {l : List Op3} {k : Nat} {s : Kst} (h : ∀ t, s.beg t = true → (s.of t).seen.map (fun o => o.2.1) = rdL (ofL (l.take k) t)) (hK : KOk l k s) (hk : k < l.length) :
    ∀ t, (stepK kind okF s k (opAt l k)).beg t = true → ((stepK kind okF s k (opAt l k)).of t).seen.map (fun o => o.2.1) = rdL (ofL (l.take (k + 1)) t) := by
  have hn := now_rd h hK (opAt l k).1
  have hown : ofL (l.take (k + 1)) (opAt l k).1 = ofL (l.take k) (opAt l k).1 ++ [opAt l k] := by rw [of_take hk, if_pos rfl]
  have key : ∀ (r : Dl) (dn : List Int) (lk : List Op3), r.seen.map (fun o => o.2.1) = rdL (ofL (l.take (k + 1)) (opAt l k).1) → ∀ t, (Kst.mk dn (setF s.of (opAt l k).1 r) (setF s.beg (opAt l k).1 true) lk).beg t = true → ((Kst.mk dn (setF s.of (opAt l k).1 r) (setF s.beg (opAt l k).1 true) lk).of t).seen.map (fun o => o.2.1) = rdL (ofL (l.take (k + 1)) t) := fun r dn lk hr t ht => by
    have ht' : setF s.beg (opAt l k).1 true t = true := ht
    show (setF s.of (opAt l k).1 r t).seen.map _ = rdL (ofL (l.take (k + 1)) t)
    by_cases e : t = (opAt l k).1
    · rw [e, setF_same]; exact hr
    · rw [setF_other _ _ e] at ht' ⊢
      rw [of_take hk, if_neg (fun e' => e e'.symm), List.append_nil]
      exact h t ht'
  unfold stepK
  split
  · rename_i ho
    refine key _ _ _ ?_
    rw [hown, rdL_snoc, if_pos ho, ← hn]
    show List.map _ (_ ++ [_]) = _
    rw [List.map_append]
    rfl
  · rename_i ho1
    split
    · refine key _ _ _ ?_
      rw [hown, rdL_snoc, if_neg ho1, List.append_nil]
      exact hn
    · have e : (nowK s k (opAt l k).1).seen.map (fun o => o.2.1) = rdL (ofL (l.take (k + 1)) (opAt l k).1) := by
        rw [hown, rdL_snoc, if_neg ho1, List.append_nil]
        exact hn
      split
      · split
        · exact key _ _ _ e
        · exact key _ _ _ e
      · exact key _ _ _ e
theorem run_rd (kind : Int) (okF : Kst → Int → Dl → Bool) {l : List Op3} (h : (chk l).2 = 0) : ∀ k, k ≤ l.length → ∀ t, (runK kind okF l k).beg t = true → ((runK kind okF l k).of t).seen.map (fun o => o.2.1) = rdL (ofL (l.take k) t) := by
  intro k
  induction k with
  | zero => exact fun _ => fun t h => by cases h
  | succ k ih => exact fun hk => rd_next (ih (by omega)) (run_kOk kind okF h k (by omega)) (by omega)
/-- What a run tells, as 'some' is asked of it. -/
theorem run_someIs (kind : Int) (okF : Kst → Int → Dl → Bool) {l : List Op3} (h : (chk l).2 = 0) : SomeIs l (seenL (runK kind okF l l.length).of (runK kind okF l l.length).done) (lastL (runK kind okF l l.length).of (runK kind okF l l.length).done) (runK kind okF l l.length).done := by
  have hK := run_kOk kind okF h l.length (Nat.le_refl _)
  have hu := outU_len kind okF false l
  rw [outU_ok h] at hu
  have hrd := run_rd kind okF h l.length (Nat.le_refl _)
  refine ⟨((chk_iff l).1 h).2.1, chk_len h, hu.2.1, hu.1, lastL_len _ _, hK.once, fun t ht => ?_⟩
  rw [seenL_of (fun t ht => hK.txs t (hK.comm t ht).1) hK.once t ht, hrd t (hK.comm t ht).1, List.take_length]
/-- .. and there is an order, if nobody is between. -/
theorem run_someGood {kind : Int} {okF : Kst → Int → Dl → Bool} (hkind : kind = 2 ∨ kind = 3) (hok : ∀ s t r, okF s t r = true → hitK kind s t r = false) {l : List Op3} (h : (chk l).2 = 0) (hp : pivL (runK kind okF l l.length).of (runK kind okF l l.length).done = false) :
    SomeGood l (seenL (runK kind okF l l.length).of (runK kind okF l l.length).done) (lastL (runK kind okF l l.length).of (runK kind okF l l.length).done) (runK kind okF l l.length).done [] := by
  have hK := run_kOk kind okF h l.length (Nat.le_refl _)
  have hS := snap_ok hkind hok h l.length (Nat.le_refl _)
  obtain ⟨o, h1, h2, h3, h4⟩ := fekete hK hS hp
  rw [List.take_length] at h3
  have hby := run_by kind okF h h1 (fun t ht => (h2 t).1 ht) h3
  refine ⟨o, ?_, ?_⟩
  · rw [List.nil_append]
    refine perm_of_sub _ _ h1 (fun x hx => (h2 x).1 hx) ?_
    exact sub_len _ _ hK.once fun x hx => (h2 x).2 hx
  · rw [List.nil_append]
    obtain ⟨b1, b2⟩ := hby
    refine ⟨fun i hi => ?_, ?_⟩
    · have hm : o.getD i 0 ∈ o := by rw [List.getD_eq_getElem?_getD, List.getElem?_eq_getElem hi]; exact List.getElem_mem _
      rw [← b1 i hi, seenL_of (fun t ht => hK.txs t (hK.comm t ((h2 t).1 ht)).1) h1 _ hm, seenL_of (fun t ht => hK.txs t (hK.comm t ht).1) hK.once _ ((h2 _).1 hm)]
    · rw [← b2]
      unfold lastL
      congr 1
      funext i
      unfold lastF6
      exact (h4 _).symm
theorem danger_good {l : List Op3} (h : (chk l).2 = 0) : SomeGood l (seenL (runK 3 okBtw l l.length).of (runK 3 okBtw l l.length).done) (lastL (runK 3 okBtw l l.length).of (runK 3 okBtw l l.length).done) (runK 3 okBtw l l.length).done [] :=
  run_someGood (.inr rfl) okBtw_hit h (danger_free h l.length (Nat.le_refl _))
theorem pivN_free {l : List Op3} (h : (chk l).2 = 0) (hp : pivN l = []) : pivL (runK 2 okS l l.length).of (runK 2 okS l l.length).done = false := by
  have hK := run_kOk 2 okS h l.length (Nat.le_refl _)
  have hd : ∀ t ∈ (runK 2 okS l l.length).done, 1 ≤ t ∧ t ≤ 6 := fun t ht => ⟨(hK.comm t ht).2.1, (hK.comm t ht).2.2.1⟩
  unfold pivN at hp
  rw [if_neg (by simpa using h), ← anti_ant hd] at hp
  exact (piv_none hd).1 hp
theorem snap_good {l : List Op3} (h : (chk l).2 = 0) (hp : pivN l = []) : SomeGood l (seenL (runK 2 okS l l.length).of (runK 2 okS l l.length).done) (lastL (runK 2 okS l l.length).of (runK 2 okS l l.length).done) (runK 2 okS l l.length).done [] :=
  run_someGood (.inl rfl) okS_hit h (pivN_free h hp)
theorem danger_same {l : List Op3} (h : (chk l).2 = 0) (hp : pivN l = []) : outU 3 okBtw false l = outU 2 okS false l := by
  rw [outU_ok h, outU_ok h, danger_snap h (pivN_free h hp) l.length (Nat.le_refl _)]
theorem pivTo_len6 (n : List Edge2) : (pivTo n 6).length ≤ 6 := by
  unfold pivTo
  exact Nat.le_trans (List.length_filter_le _ _) (by simp)
def one6 : List Op3 := [(1, 1, 1), (2, 1, 2), (1, 2, 2), (2, 2, 1), (1, 3, 0), (2, 3, 0)]
theorem one6_done : (outU 3 okBtw false one6).1.1 = [1] ∧ (outU 3 okBtw false one6).2 = 0 ∧ pivN one6 = [1, 2] ∧ (chk one6).2 = 0 := by decide
end Go.Proofs.Ytccjognnehoodag

namespace Go.Proofs.Ytccjognnehoodag
open Go.RowKit

theorem hid_o {p : Prop} (h : p) : Hid p := h
set_option maxHeartbeats 8000000 in
set_option maxRecDepth 100000 in
theorem same_outcome (ds : List Int) (se : List Op3) (la : List Int) (a1 a2 a3 b1 b2 b3 : Value) (w : World) (h1 : IsInts w a1 ds) (h2 : IsOps w a2 se) (h3 : IsInts w a3 la) (g1 : IsInts w b1 ds) (g2 : IsOps w b2 se) (g3 : IsInts w b3 la) (hd : ds.length ≤ 1000) (hs : se.length ≤ 1000) (hl : la.length ≤ 1000) :
    Calls Try.prog 15 #[.agg #[a1, a2, a3], .agg #[b1, b2, b3]] w fun e w' => e = .returned (.bool true) ∧ Below w.heap.size w w' := by
  have HI1 : Hid (∀ W, Below w.heap.size w W → Calls Try.prog 19 #[a1, b1] W fun e w' => e = .returned (.bool true) ∧ Below W.heap.size W w') := fun W hW => same_ints ds a1 b1 W (h1.below hW (Nat.le_refl _)) (g1.below hW (Nat.le_refl _)) (by omega)
  have HI3 : Hid (∀ W, Below w.heap.size w W → Calls Try.prog 19 #[a3, b3] W fun e w' => e = .returned (.bool true) ∧ Below W.heap.size W w') := fun W hW => same_ints la a3 b3 W (h3.below hW (Nat.le_refl _)) (g3.below hW (Nat.le_refl _)) (by omega)
  obtain ⟨ad, b, off, cap, rfl, ha, _, hbB, hops⟩ := h2
  obtain ⟨ad2, b2', off2, cap2, rfl, ha2, _, hbB2, hops2⟩ := g2
  have HO : Hid (∀ W, Below w.heap.size w W → ∀ k, k < se.length → (ad = some ⟨b, off, none⟩ ∧ ad2 = some ⟨b2', off2, none⟩) ∧ (W.cell? ⟨b, off + k * 3, none⟩ = some (.int .i64 (opAt se k).1) ∧ W.cell? ⟨b, off + k * 3 + 1, none⟩ = some (.int .i64 (opAt se k).2.1) ∧ W.cell? ⟨b, off + k * 3 + 2, none⟩ = some (.int .i64 (opAt se k).2.2)) ∧ (W.cell? ⟨b2', off2 + k * 3, none⟩ = some (.int .i64 (opAt se k).1) ∧ W.cell? ⟨b2', off2 + k * 3 + 1, none⟩ = some (.int .i64 (opAt se k).2.1) ∧ W.cell? ⟨b2', off2 + k * 3 + 2, none⟩ = some (.int .i64 (opAt se k).2.2))) := fun W hW k hk => ⟨⟨ha (by omega), ha2 (by omega)⟩, (hops.below hW hbB) k hk, (hops2.below hW hbB2) k hk⟩
  obtain ⟨W, hW⟩ : ∃ W, W = (w.alloc (.cells #[a1, .slice ad se.length cap, a3] 28)).alloc (.cells #[b1, .slice ad2 se.length cap2, b3] 28) := ⟨_, rfl⟩
  have hBW : Below w.heap.size w W := by rw [hW]; exact ((Below.refl _ w).alloc (Nat.le_refl _) _).alloc (by simp) _
  have HC : Hid (∀ V, Below W.heap.size W V → V.cell? ⟨w.heap.size, 0, none⟩ = some a1 ∧ V.cell? ⟨w.heap.size, 1, none⟩ = some (.slice ad se.length cap) ∧ V.cell? ⟨w.heap.size, 2, none⟩ = some a3 ∧ V.cell? ⟨w.heap.size + 1, 0, none⟩ = some b1 ∧ V.cell? ⟨w.heap.size + 1, 1, none⟩ = some (.slice ad2 se.length cap2) ∧ V.cell? ⟨w.heap.size + 1, 2, none⟩ = some b3) := fun V hV => by
    have hs1 : w.heap.size < W.heap.size := by rw [hW]; simp; omega
    have hs2 : w.heap.size + 1 < W.heap.size := by rw [hW]; simp
    refine ⟨(hV.cell (p := ⟨w.heap.size, 0, none⟩) hs1).trans ?_, (hV.cell (p := ⟨w.heap.size, 1, none⟩) hs1).trans ?_, (hV.cell (p := ⟨w.heap.size, 2, none⟩) hs1).trans ?_, (hV.cell (p := ⟨w.heap.size + 1, 0, none⟩) hs2).trans ?_, (hV.cell (p := ⟨w.heap.size + 1, 1, none⟩) hs2).trans ?_, (hV.cell (p := ⟨w.heap.size + 1, 2, none⟩) hs2).trans ?_⟩ <;> rw [hW] <;> simp
  have HB : Hid (∀ V, Below W.heap.size W V → Below w.heap.size w V) := fun V hV => hBW.trans (hV.mono hBW.size)
  clear h1 h3 g1 g3 ha ha2 hbB hbB2 hops hops2 hBW
  go_enter Try.func15, Try.ntmps15
  go_upto_region 1 with (fail)
  rw [← hW]
  clear hW
  obtain ⟨c0, c1, c2, e0, e1, e2⟩ := HC.out W (Below.refl _ _)
  go_wp2_with fail
  refine (HI1.out W (HB.out _ (Below.refl _ _))).mono ?_
  rintro e w1 ⟨rfl, hb1⟩
  obtain ⟨c0', c1', c2', e0', e1', e2'⟩ := HC.out w1 hb1
  clear c0 c1 c2 e0 e1 e2
  go_wp2_with fail
  refine (HI3.out w1 (HB.out _ hb1)).mono ?_
  rintro e w2 ⟨rfl, hb2⟩
  have hb12 : Below W.heap.size W w2 := hb1.trans (hb2.mono hb1.size)
  have HB12 := hid_o hb12
  obtain ⟨c0, c1, c2, e0, e1, e2⟩ := HC.out w2 hb12
  clear c0' c1' c2' e0' e1' e2' hb1 hb2 hb12
  go_wp2_with fail
  go_loopw [7] (fun v7 wr => ∃ k : Nat, k ≤ se.length ∧ v7 = .int .i64 k ∧ Below W.heap.size W wr) (fun v7 _ => se.length - (intOf v7).toNat)
  case atStart => exact ⟨0, Nat.zero_le _, rfl, HB12.out⟩
  case round =>
    obtain ⟨k, hk, rfl, hbel⟩ := hrel
    obtain ⟨-, f1, -, -, q1, -⟩ := HC.out wr hbel
    clear c0 c1 c2 e0 e1 e2
    by_cases hlt : k < se.length
    · have hlt' : (k : Int) < (se.length : Int) := by omega
      obtain ⟨⟨rfl, rfl⟩, ⟨c0, c1, c2⟩, d0, d1, d2⟩ := HO.out wr (HB.out _ hbel) k hlt
      obtain ⟨⟨t, a, i⟩, ho⟩ : ∃ o : Op3, opAt se k = o := ⟨_, rfl⟩
      rw [ho] at c0 c1 c2 d0 d1 d2
      simp only at c0 c1 c2 d0 d1 d2
      clear ho
      go_wp2_with fail
      go_quiet (fail)
      go_wp2_with fail
      go_roundw
      case rel => exact ⟨k + 1, by omega, by go_num, below_drewN hbel _⟩
      case measure => simp [intOf]; omega
    · have hlt' : ¬ (k : Int) < (se.length : Int) := by omega
      go_wp2_with fail
      go_ret
      exact ⟨rfl, HB.out _ hbel⟩
end Go.Proofs.Ytccjognnehoodag
