/-
  PROVED HERE: graph.reached, with its closure that calls itself, sees just the deals to which there is a way of at least one edge; graph.Reach tells whether there is one, and of wrong edges, or of numbers that are no deals, the error. Old memory stays as it was.
  Conditions: none.
  PROVED HERE: graph.Reach tells whether there is a way of at least one edge; of wrong edges Check's error, of numbers that are no deals ErrRange. Old memory stays as it was.
  Conditions: none.
  (Of these, what the claim wants: the rest was left out.)
-/
import Derived.Test.YtmjjiehnjghndaaGreatMgbw
namespace Go.Proofs.YtmjjiehnjghndaaGreat
open Go.RowKit

/-- The closure's three variables. -/
structure VisitAt (w : World) (p q r : Nat) (m : Step7) (s : Set7) : Prop where
  mat : MatAt w p m
  row : BoolsAt w q 7 s
  fn : w.cell? ⟨r, 0, none⟩ = some (.func (.func 119) #[] #[.pointer (some ⟨p, 0, none⟩), .pointer (some ⟨q, 0, none⟩), .pointer (some ⟨r, 0, none⟩)])
  pq : p ≠ q
  rq : r ≠ q
theorem VisitAt.past {w w1 : World} {p q r B : Nat} {m : Step7} {s s1 : Set7} (h : VisitAt w p q r m s) (hp : Past q B w w1) (hB : w.heap.size ≤ B) (hs : BoolsAt w1 q 7 s1) : VisitAt w1 p q r m s1 where
  mat := h.mat.past hp (Nat.lt_of_lt_of_le h.mat.lt hB) h.pq
  row := hs
  fn := by
    have := World.block_lt_of_cell? w _ h.fn
    rw [hp.cell (p := ⟨r, 0, none⟩) (Nat.lt_of_lt_of_le this hB) h.rq]; exact h.fn
  pq := h.pq
  rq := h.rq
def VisitOk (n : Nat) : Prop := ∀ (x : Nat) (s : Set7) (m : Step7) (p q r : Nat) (w : World), x < 7 → 7 - cntS s ≤ n → VisitAt w p q r m s →
  Calls Tryz.prog 119 #[.int .i64 x, .pointer (some ⟨p, 0, none⟩), .pointer (some ⟨q, 0, none⟩), .pointer (some ⟨r, 0, none⟩)] w fun e w' => e = .returned (.tuple #[]) ∧ (∃ s', Seen m x 7 s s' ∧ BoolsAt w' q 7 s') ∧ Past q w.heap.size w w'

theorem cnt_on {s : Set7} {t : Nat} (ht : t < 7) (h : s t = false) : cntS (setS s t true) = cntS s + 1 := by
  have h1 := cnt_set (s := setS s t true) ht (setS_same s t true)
  rw [show setS (setS s t true) t false = s from funext fun k => by
    by_cases e : k = t
    · rw [e, setS_same, h]
    · rw [setS_other _ _ e, setS_other _ _ e]] at h1
  omega

theorem index_row (f : Nat → Bool) (k : Nat) (h : k < 7) (W : World) : (Instr.index 84 (.agg #[.bool (f 0), .bool (f 1), .bool (f 2), .bool (f 3), .bool (f 4), .bool (f 5), .bool (f 6)]) (.int .i64 k)).run Tryz.prog W = .ok (.bool (f k)) W := by
  rcases (show k = 0 ∨ k = 1 ∨ k = 2 ∨ k = 3 ∨ k = 4 ∨ k = 5 ∨ k = 6 by omega) with e | e | e | e | e | e | e <;> subst e <;> kernel_rfl
theorem cntS_mono {s r : Set7} (h : ∀ y, s y = true → r y = true) : cntS s ≤ cntS r := by
  have h1 : ∀ y, (s y).toNat ≤ (r y).toNat := fun y => by
    cases hs : s y with
    | false => simp
    | true => rw [h y hs]; exact Nat.le_refl _
  unfold cntS
  have := h1 0; have := h1 1; have := h1 2; have := h1 3; have := h1 4; have := h1 5; have := h1 6
  omega

set_option maxHeartbeats 4000000 in
theorem visit_step (n : Nat) (ih : ∀ k, k < n → VisitOk k) : VisitOk n := by
  intro x s m p q r w hx hn hv
  have IH : Hid (∀ k, k < n → VisitOk k) := ih
  have HV : Hid (VisitAt w p q r m s) := hv
  have HN : Hid (7 - cntS s ≤ n) := hn
  have hx7 : (x : Int) < 7 := by omega
  have hrow : ∀ k, k < 7 → w.cell? ⟨p, x * 7 + k, none⟩ = some (.bool (m x k)) := fun k hk => hv.mat.cell hx hk
  have c0 := hrow 0 (by omega)
  rw [Nat.add_zero] at c0
  clear ih hv hn
  go_enter Tryz.func119, Tryz.ntmps119
  go_wp2_with fail
  go_loopw [10] (fun v10 wr => ∃ (k : Nat) (sk : Set7), k ≤ 7 ∧ v10 = .int .i64 k ∧ Seen m x k s sk ∧ BoolsAt wr q 7 sk ∧ Past q w.heap.size w wr) (fun v10 _ => 7 - (intOf v10).toNat)
  case atStart => exact ⟨0, s, by omega, rfl, Seen.start m x s, HV.out.row, Past.refl _ _ _⟩
  case round =>
    clear hrow c0
    obtain ⟨k, sk, hk, rfl, hseen, hs, hpast⟩ := hrel
    have HS : Hid (Seen m x k s sk) := hseen
    have HB : Hid (BoolsAt wr q 7 sk) := hs
    have HVK : Hid (VisitAt wr p q r m sk) := HV.out.past hpast (Nat.le_refl _) hs
    clear hseen hs
    by_cases hlt : k < 7
    · have hk7 : (k : Int) < 7 := by omega
      have hidx : ∀ W, (Instr.index 84 (.agg #[.bool (m x 0), .bool (m x 1), .bool (m x 2), .bool (m x 3), .bool (m x 4), .bool (m x 5), .bool (m x 6)]) (.int .i64 k)).run Tryz.prog W = .ok (.bool (m x k)) W := fun W => index_row (m x) k hlt W
      obtain ⟨c1, z1⟩ := HB.out k hlt
      cases hm : m x k with
      | false =>
        rw [hm] at hidx
        have HQ : Hid (Seen m x (k + 1) s sk) := HS.out.skip (.inl hm)
        clear hm
        go_wp2_with fail
        go_roundw
        case rel => exact ⟨k + 1, sk, by omega, by go_num, HQ.out, HB.out, hpast⟩
        case measure => simp [intOf]; omega
      | true =>
        rw [hm] at hidx
        cases hsk : sk k with
        | true =>
          rw [hsk] at c1
          have HQ : Hid (Seen m x (k + 1) s sk) := HS.out.skip (.inr hsk)
          clear hm hsk
          go_wp2_with fail
          go_roundw
          case rel => exact ⟨k + 1, sk, by omega, by go_num, HQ.out, HB.out, hpast⟩
          case measure => simp [intOf]; omega
        | false =>
          rw [hsk] at c1
          have HM : Hid (m x k = true) := hm
          have HC : Hid (cntS (setS sk k true) = cntS sk + 1) := cnt_on hlt hsk
          have HL : Hid (cntS s ≤ cntS sk) := cntS_mono HS.out.keep
          have h3 := HVK.out.fn
          have hrq := HV.out.rq
          have hqr : ¬ q = r := fun e => hrq e.symm
          have HSET : Hid (BoolsAt (wr.setCell ⟨q, k, none⟩ (.bool true)) q 7 (setS sk k true)) := HB.out.set true hlt
          have HVIS : Hid (VisitAt (wr.setCell ⟨q, k, none⟩ (.bool true)) p q r m (setS sk k true)) := HVK.out.past ((Past.refl q wr.heap.size wr).set k _) (Nat.le_refl _) HSET.out
          have HLT : Hid (7 - cntS (setS sk k true) < n) := by
            show 7 - cntS (setS sk k true) < n
            have := HC.out; have := HL.out; have := HN.out; have := cnt_le (setS sk k true)
            omega
          clear hm hsk
          go_wp2_with fail
          refine (IH.out _ HLT.out k (setS sk k true) m p q r _ hlt (Nat.le_refl _) HVIS.out).mono ?_
          rintro e w1 ⟨rfl, ⟨s', hs', hb'⟩, hp1⟩
          go_wp2_with fail
          go_roundw
          case rel => exact ⟨k + 1, s', by omega, by go_num, HS.out.visit HM.out hs', hb', (hpast.set k _).trans (hp1.mono (by simpa using hpast.size))⟩
          case measure => simp [intOf]; omega
    · have HQ : Hid (Seen m x 7 s sk) := by have h0 := HS.out; rw [show k = 7 by omega] at h0; exact h0
      have hk7 : ¬ (k : Int) < 7 := by omega
      go_wp2_with fail
      exact ⟨rfl, _, by simp [results, Tryz.results119], rfl, ⟨sk, HQ.out, HB.out⟩, hpast⟩
theorem visit_any (n : Nat) : VisitOk n := Nat.strongRecOn n visit_step

theorem visit_start (w : World) (m : Step7) : VisitAt ((((w.alloc (.cells (cells49 m) 149)).alloc (.cells #[.bool false, .bool false, .bool false, .bool false, .bool false, .bool false, .bool false] 84)).alloc (.cells #[.bool false, .bool false, .bool false, .bool false, .bool false, .bool false, .bool false] 84)).alloc (.cells #[.func (.func 119) #[] #[.pointer (some ⟨w.heap.size, 0, none⟩), .pointer (some ⟨w.heap.size + 1 + 1, 0, none⟩), .pointer (some ⟨w.heap.size + 1 + 1 + 1, 0, none⟩)]] 101)) w.heap.size (w.heap.size + 1 + 1) (w.heap.size + 1 + 1 + 1) m (fun _ => false) ∧ BoolsAt ((((w.alloc (.cells (cells49 m) 149)).alloc (.cells #[.bool false, .bool false, .bool false, .bool false, .bool false, .bool false, .bool false] 84)).alloc (.cells #[.bool false, .bool false, .bool false, .bool false, .bool false, .bool false, .bool false] 84)).alloc (.cells #[.func (.func 119) #[] #[.pointer (some ⟨w.heap.size, 0, none⟩), .pointer (some ⟨w.heap.size + 1 + 1, 0, none⟩), .pointer (some ⟨w.heap.size + 1 + 1 + 1, 0, none⟩)]] 101)) (w.heap.size + 1) 7 (fun _ => false) ∧ Below w.heap.size w ((((w.alloc (.cells (cells49 m) 149)).alloc (.cells #[.bool false, .bool false, .bool false, .bool false, .bool false, .bool false, .bool false] 84)).alloc (.cells #[.bool false, .bool false, .bool false, .bool false, .bool false, .bool false, .bool false] 84)).alloc (.cells #[.func (.func 119) #[] #[.pointer (some ⟨w.heap.size, 0, none⟩), .pointer (some ⟨w.heap.size + 1 + 1, 0, none⟩), .pointer (some ⟨w.heap.size + 1 + 1 + 1, 0, none⟩)]] 101)) ∧ ((((w.alloc (.cells (cells49 m) 149)).alloc (.cells #[.bool false, .bool false, .bool false, .bool false, .bool false, .bool false, .bool false] 84)).alloc (.cells #[.bool false, .bool false, .bool false, .bool false, .bool false, .bool false, .bool false] 84)).alloc (.cells #[.func (.func 119) #[] #[.pointer (some ⟨w.heap.size, 0, none⟩), .pointer (some ⟨w.heap.size + 1 + 1, 0, none⟩), .pointer (some ⟨w.heap.size + 1 + 1 + 1, 0, none⟩)]] 101)).heap.size = w.heap.size + 4 := by
  have h1 : BoolsAt ((w.alloc (.cells (cells49 m) 149)).alloc (.cells #[.bool false, .bool false, .bool false, .bool false, .bool false, .bool false, .bool false] 84)) (w.heap.size + 1) 7 (fun _ => false) := by
    have := bools7_new (w.alloc (.cells (cells49 m) 149)) (fun _ => false) 84
    simpa using this
  have h2 : BoolsAt (((w.alloc (.cells (cells49 m) 149)).alloc (.cells #[.bool false, .bool false, .bool false, .bool false, .bool false, .bool false, .bool false] 84)).alloc (.cells #[.bool false, .bool false, .bool false, .bool false, .bool false, .bool false, .bool false] 84)) (w.heap.size + 1 + 1) 7 (fun _ => false) := by
    have := bools7_new ((w.alloc (.cells (cells49 m) 149)).alloc (.cells #[.bool false, .bool false, .bool false, .bool false, .bool false, .bool false, .bool false] 84)) (fun _ => false) 84
    simpa using this
  refine ⟨⟨(((mat_box w m).alloc _).alloc _).alloc _, h2.alloc _, ?_, by omega, by omega⟩, (h1.alloc _).alloc _, ((((Below.refl _ w).alloc (Nat.le_refl _) _).alloc (by simp) _).alloc (by simp; omega) _).alloc (by simp; omega) _, by simp⟩
  rw [World.cell?_alloc_at _ _ _ _ (by simp)]
  rfl

set_option maxHeartbeats 4000000 in
theorem reached_any (x : Nat) (m : Step7) (w : World) (hx : x < 7) :
    Calls Tryz.prog 115 #[.int .i64 x, .agg (cells49 m)] w fun e w' => ∃ s' : Set7, e = .returned (.agg #[.bool (s' 0), .bool (s' 1), .bool (s' 2), .bool (s' 3), .bool (s' 4), .bool (s' 5), .bool (s' 6)]) ∧ Seen m x 7 (fun _ => false) s' ∧ Below w.heap.size w w' := by
  go_enter Tryz.func115, Tryz.ntmps115
  go_wp2_with fail
  rw [store_func _ _ _ _ _ _ _ (by simp)]
  go_wp2_with fail
  have hst := visit_start w m
  obtain ⟨W0, hW0⟩ : ∃ W0, W0 = ((((w.alloc (.cells (cells49 m) 149)).alloc (.cells #[.bool false, .bool false, .bool false, .bool false, .bool false, .bool false, .bool false] 84)).alloc (.cells #[.bool false, .bool false, .bool false, .bool false, .bool false, .bool false, .bool false] 84)).alloc (.cells #[.func (.func 119) #[] #[.pointer (some ⟨w.heap.size, 0, none⟩), .pointer (some ⟨w.heap.size + 1 + 1, 0, none⟩), .pointer (some ⟨w.heap.size + 1 + 1 + 1, 0, none⟩)]] 101)) := ⟨_, rfl⟩
  rw [← hW0] at hst ⊢
  clear hW0
  obtain ⟨hv, hz, hbe, hsz⟩ := hst
  refine (visit_any 7 x (fun _ => false) m _ _ _ W0 hx (by omega) hv).mono ?_
  rintro e w1 ⟨rfl, ⟨s', hs', hb'⟩, hp1⟩
  have HZ : Hid (BoolsAt w1 (w.heap.size + 1) 7 (fun _ => false)) := fun k hk => by
    have hbl := hp1.block (w.heap.size + 1) (by omega) (by omega)
    rw [World.cell?_of_block (w := W0) (a := ⟨w.heap.size + 1, k, none⟩) hbl, World.frozen?_of_block (w := W0) (a := ⟨w.heap.size + 1, k, none⟩) hbl]; exact hz k hk
  have HS : Hid (Seen m x 7 (fun _ => false) s') := hs'
  have hb1 : Below w.heap.size w w1 := hbe.trans (hp1.below (by omega) (by omega))
  have hc : ∀ k, k < 7 → w1.cell? ⟨w.heap.size + 1 + 1, k, none⟩ = some (.bool (s' k)) := fun k hk => (hb' k hk).1
  have hz1 : ∀ k, k < 7 → w1.cell? ⟨w.heap.size + 1, k, none⟩ = some (.bool false) := fun k hk => (HZ.out k hk).1
  have hy1 : ∀ k, k < 7 → w1.frozen? ⟨w.heap.size + 1, k, none⟩ = false := fun k hk => (HZ.out k hk).2
  clear hv hz hbe hsz hs' hb' hp1 HZ
  go_wp2_with fail
  refine bodyPost_ret (v := .agg #[.bool (s' 0), .bool (s' 1), .bool (s' 2), .bool (s' 3), .bool (s' 4), .bool (s' 5), .bool (s' 6)]) (by simp [results, Tryz.results115, go_sem, hz1]) rfl ⟨s', rfl, HS.out, ?_⟩
  exact ((((((hb1.setCell (by simp) _).setCell (by simp) _).setCell (by simp) _).setCell (by simp) _).setCell (by simp) _).setCell (by simp) _).setCell (by simp) _
end Go.Proofs.YtmjjiehnjghndaaGreat

namespace Go.Proofs.YtmjjiehnjghndaaGreat
open Go.RowKit

set_option maxHeartbeats 2000000 in
theorem reach_any (l : List Edge2) (v : Value) (a b : Nat) (w : World) (hI : IsEdges w v l) (hc : gchk l = 0) (ha : dealB a = true) (hb : dealB b = true) :
    Calls Tryz.prog 104 #[v, .int .i64 a, .int .i64 b] w fun e w' => ∃ x : Bool, e = .returned (.tuple #[.bool x, .nilIface]) ∧ (x = true ↔ Way (stepsS l) a b) ∧ Below w.heap.size w w' := by
  have hl := gchk_len hc
  have HD : Hid (∀ e ∈ l, (1 ≤ e.1 ∧ e.1 ≤ 6) ∧ (1 ≤ e.2 ∧ e.2 ≤ 6)) := gchk_deal hc
  have ha6 := dealB_iff.1 ha
  have hb6 := dealB_iff.1 hb
  go_enter Tryz.func104, Tryz.ntmps104
  go_wp2_with fail
  refine (gcheck_ok l _ _ hI hc).mono ?_
  rintro e w1 ⟨rfl, hb1⟩
  go_wp2_with fail
  refine (isDeal_any _ _).mono ?_
  rintro e wx ⟨rfl, hwx⟩
  rw [hwx, ha]; clear hwx
  go_wp2_with fail
  refine (isDeal_any _ _).mono ?_
  rintro e wx ⟨rfl, hwx⟩
  rw [hwx, hb]; clear hwx
  go_wp2_with fail
  refine (stepsOf_any l _ _ (hI.below hb1 (Nat.le_refl _)) HD.out hl).mono ?_
  rintro e w2 ⟨rfl, hb2⟩
  have hb02 := hb1.trans (hb2.mono hb1.size)
  go_wp2_with fail
  refine (reached_any a (stepsS l) _ (by omega)).mono ?_
  rintro e w3 ⟨s', rfl, hs', hb3⟩
  have hb03 := hb02.trans (hb3.mono hb02.size)
  have HW : Hid (s' b = true ↔ Way (stepsS l) a b) := seen_way (fun y z h => by have := (steps_lt HD.out h).2; omega) hs' b
  have hidx : ∀ W, (Instr.index 84 (.agg #[.bool (s' 0), .bool (s' 1), .bool (s' 2), .bool (s' 3), .bool (s' 4), .bool (s' 5), .bool (s' 6)]) (.int .i64 b)).run Tryz.prog W = .ok (.bool (s' b)) W := fun W => index_row s' b (by omega) W
  clear hs'
  go_wp2_with fail
  go_ret2
  exact ⟨s' b, rfl, HW.out, hb03⟩
end Go.Proofs.YtmjjiehnjghndaaGreat
