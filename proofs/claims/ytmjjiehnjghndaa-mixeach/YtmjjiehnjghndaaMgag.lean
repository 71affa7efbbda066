/-
  PROVED HERE: history.keep gives those ops of a list that a closure says yes to, in order, in new memory: for the two closures that the program hands it (the ops of a deal; the ops of the deals that commit). Old memory stays as it was.
  Conditions: none.
  PROVED HERE: history.Done gives the ops of the deals that commit, in order, of a list that is right; of any other Check's error. history.Of gives a deal's ops. Old memory stays as it was.
  Conditions: none.
  (Of these, what the claim wants: the rest was left out.)
-/
import Derived.Test.YtmjjiehnjghndaaMgaf
namespace Go.Proofs.Ytmjjiehnjghndaa
open Go.RowKit

theorem isOf1_any (t a i tx : Int) (c : Nat) (w : World) (hc : w.cell? ⟨c, 0, none⟩ = some (.int .i64 tx)) (hcl : c < w.heap.size) :
    Calls Try.prog 41 #[.agg #[.int .i64 t, .int .i64 a, .int .i64 i], .pointer (some ⟨c, 0, none⟩)] w fun e w' => e = .returned (.bool (t == tx)) ∧ w' = w.alloc (.cells #[.int .i64 t, .int .i64 a, .int .i64 i] 24) := by
  go_enter Try.func41, Try.ntmps41
  go_wp2
  go_ret
  exact ⟨rfl, rfl⟩
theorem done1_any (t a i : Int) (c : Nat) (f : Nat → Bool) (w : World) (hc : ∀ j, j < 7 → w.cell? ⟨c, j, none⟩ = some (.bool (f j))) (hcl : c < w.heap.size) (ht : 1 ≤ t) (ht6 : t ≤ 6) :
    Calls Try.prog 42 #[.agg #[.int .i64 t, .int .i64 a, .int .i64 i], .pointer (some ⟨c, 0, none⟩)] w fun e w' => e = .returned (.bool (f t.toNat)) ∧ w' = w.alloc (.cells #[.int .i64 t, .int .i64 a, .int .i64 i] 24) := by
  have hc' := hc t.toNat (by omega)
  clear hc
  go_enter Try.func42, Try.ntmps42
  go_wp2
  go_ret
  exact ⟨rfl, rfl⟩
theorem filter_snoc (q : Op3 → Bool) (l : List Op3) (k : Nat) (o : Op3) (h : l.take (k + 1) = l.take k ++ [o]) : (l.take (k + 1)).filter q = (l.take k).filter q ++ (if q o then [o] else []) := by
  rw [h, List.filter_append]
  cases hq : q o <;> simp [hq]
theorem take_len (q : Op3 → Bool) (l : List Op3) (k : Nat) : ((l.take k).filter q).length ≤ k := by
  have h1 := List.length_filter_le q (l.take k)
  have h2 : (l.take k).length ≤ k := List.length_take_le _ _
  omega

set_option maxHeartbeats 2000000 in
theorem keep_of (l : List Op3) (ad : Option Addr) (b off cap : Nat) (c : Nat) (tx : Int) (w : World) (hlen : l.length ≤ 140737488351) (ha : 0 < l.length → ad = some ⟨b, off, none⟩) (hbB : b < w.heap.size ∨ l = []) (hops : OpsAt w b off l) (hc : w.cell? ⟨c, 0, none⟩ = some (.int .i64 tx)) (hcl : c < w.heap.size) :
    Calls Try.prog 21 #[.slice ad l.length cap, .func (.func 41) #[] #[.pointer (some ⟨c, 0, none⟩)]] w fun e w' => ∃ v, e = .returned v ∧ IsOps w' v (l.filter (fun o : Op3 => o.1 == tx)) ∧ Below w.heap.size w w' := by
  go_enter Try.func21, Try.ntmps21
  go_wp2
  go_loopw [5, 10] (fun v5 v10 wr => ∃ k : Nat, k ≤ l.length ∧ v10 = .int .i64 k ∧ wr.ownsRow w.heap.size 24 3 v5 ((l.take k).filter (fun o : Op3 => o.1 == tx)).length (flat ((l.take k).filter (fun o : Op3 => o.1 == tx))) ∧ Below w.heap.size w wr) (fun _ v10 _ => l.length - (intOf v10).toNat)
  case atStart => exact ⟨0, Nat.zero_le _, rfl, World.ownsRow_nil _ _ _ _, Below.refl _ _⟩
  case round =>
    obtain ⟨k, hk, rfl, hown, hbel⟩ := hrel
    by_cases hlt : k < l.length
    · obtain rfl := ha (by omega)
      obtain ⟨c0, c1, c2⟩ := hops k hlt
      have hb1 : b < w.heap.size := by
        rcases hbB with h | h
        · exact h
        · subst h; simp at hlt
      rw [← hbel.cell (p := ⟨b, off + k * 3, none⟩) hb1] at c0
      rw [← hbel.cell (p := ⟨b, off + k * 3 + 1, none⟩) hb1] at c1
      rw [← hbel.cell (p := ⟨b, off + k * 3 + 2, none⟩) hb1] at c2
      obtain ⟨⟨t, a, i⟩, ho⟩ : ∃ o : Op3, l.getD k (0, 0, 0) = o := ⟨_, rfl⟩
      rw [ho] at c0 c1 c2
      
      have HT : Hid (l.take (k + 1) = l.take k ++ [(t, a, i)]) := by
        show l.take (k + 1) = l.take k ++ [(t, a, i)]
        rw [List.take_succ_eq_append_getElem hlt, ← ho]; simp [List.getD, List.getElem?_eq_getElem hlt]
      have hsz := hbel.size
      rw [← hbel.cell (p := ⟨c, 0, none⟩) hcl] at hc
      have hkl := take_len (fun o : Op3 => o.1 == tx) l k
      clear ho hops ha hbB
      simp only at c0 c1 c2
      cases hq : (fun o : Op3 => o.1 == tx) (t, a, i) with
      | false =>
        have HQ : Hid ((fun o : Op3 => o.1 == tx) (t, a, i) = false) := hq
        simp only at hq
        go_wp2_with (go_at_call 41; refine (isOf1_any t a i tx c _ (by simpa [World.cell?_alloc_lt, show c < wr.heap.size by omega] using hc) (by simp; omega)).mono ?_; rintro e w' ⟨rfl, rfl⟩)
        go_roundw
        case rel => exact ⟨k + 1, by omega, by go_num, by rw [filter_snoc _ l k _ HT.out, HQ.out]; simpa using (hown.alloc _).alloc _, (hbel.alloc (by omega) _).alloc (by simp; omega) _⟩
        case measure => simp [intOf]; omega
      | true =>
        have HQ : Hid ((fun o : Op3 => o.1 == tx) (t, a, i) = true) := hq
        simp only at hq
        obtain ⟨i0, hi, hz0, hs0, hy0⟩ := info_parts infoOp
        have HI : Hid (Try.prog.info? 24 = some i0 ∧ i0.zero = some (.agg #[.int .i64 0, .int .i64 0, .int .i64 0]) ∧ i0.size = 3 ∧ i0.bytes = 24) := ⟨hi, hz0, hs0, hy0⟩
        clear hi hz0 hs0 hy0
        go_wp2_with (first | (go_at_call 41; refine (isOf1_any t a i tx c _ (by simpa [World.cell?_alloc_lt, show c < wr.heap.size by omega] using hc) (by simp; omega)).mono ?_; rintro e w' ⟨rfl, rfl⟩) | (at_builtin; refine wpList_append_own _ rfl (.tmp 17) (.tmp 19) 22 rfl w.heap.size 24 i0 (.agg #[.int .i64 0, .int .i64 0, .int .i64 0]) 3 24 Try.underlying22 HI.out.1 HI.out.2.1 HI.out.2.2.1 HI.out.2.2.2 rfl (by decide) u5 ((l.take k).filter (fun o : Op3 => o.1 == tx)).length (flat ((l.take k).filter (fun o : Op3 => o.1 == tx))) rfl (((hown.alloc _).alloc _).alloc _) ⟨wr.heap.size + 1 + 1, 0, none⟩ 1 1 (flat [(t, a, i)]) rfl rfl (by have := one_at ((wr.alloc (.cells #[.int .i64 t, .int .i64 a, .int .i64 i] 24)).alloc (.cells #[.int .i64 t, .int .i64 a, .int .i64 i] 24)) t a i; simpa using this) (flat_one _) (by unfold maxLen; omega) (by omega) (by simp; omega) ?_; intro v' w1 hown1 hgr1 hnil1))
        have hB1 := (((hbel.alloc hsz _).alloc (by simp; omega) _).alloc (by simp; omega) _).grown hgr1 (by simp; omega) (fun m hm => (hown.lt m hm).1)
        go_roundw
        case rel => exact ⟨k + 1, by omega, by go_num, by rw [filter_snoc _ l k _ HT.out, HQ.out]; simpa [flat_append] using hown1, hB1⟩
        case measure => simp [intOf]; omega
    · go_wp2
      go_ret
      exact ⟨_, rfl, by rw [List.take_of_length_le (by omega)] at hown; exact isOps_own hown rfl, hbel⟩

set_option maxHeartbeats 2000000 in
theorem keep_done (l : List Op3) (ad : Option Addr) (b off cap : Nat) (c : Nat) (f : Nat → Bool) (hin : ∀ o ∈ l, 1 ≤ o.1 ∧ o.1 ≤ 6) (w : World) (hlen : l.length ≤ 140737488351) (ha : 0 < l.length → ad = some ⟨b, off, none⟩) (hbB : b < w.heap.size ∨ l = []) (hops : OpsAt w b off l) (hc : ∀ j, j < 7 → w.cell? ⟨c, j, none⟩ = some (.bool (f j))) (hcl : c < w.heap.size) :
    Calls Try.prog 21 #[.slice ad l.length cap, .func (.func 42) #[] #[.pointer (some ⟨c, 0, none⟩)]] w fun e w' => ∃ v, e = .returned v ∧ IsOps w' v (l.filter (fun o : Op3 => f o.1.toNat)) ∧ Below w.heap.size w w' := by
  go_enter Try.func21, Try.ntmps21
  go_wp2
  go_loopw [5, 10] (fun v5 v10 wr => ∃ k : Nat, k ≤ l.length ∧ v10 = .int .i64 k ∧ wr.ownsRow w.heap.size 24 3 v5 ((l.take k).filter (fun o : Op3 => f o.1.toNat)).length (flat ((l.take k).filter (fun o : Op3 => f o.1.toNat))) ∧ Below w.heap.size w wr) (fun _ v10 _ => l.length - (intOf v10).toNat)
  case atStart => exact ⟨0, Nat.zero_le _, rfl, World.ownsRow_nil _ _ _ _, Below.refl _ _⟩
  case round =>
    obtain ⟨k, hk, rfl, hown, hbel⟩ := hrel
    by_cases hlt : k < l.length
    · obtain rfl := ha (by omega)
      obtain ⟨c0, c1, c2⟩ := hops k hlt
      have hb1 : b < w.heap.size := by
        rcases hbB with h | h
        · exact h
        · subst h; simp at hlt
      rw [← hbel.cell (p := ⟨b, off + k * 3, none⟩) hb1] at c0
      rw [← hbel.cell (p := ⟨b, off + k * 3 + 1, none⟩) hb1] at c1
      rw [← hbel.cell (p := ⟨b, off + k * 3 + 2, none⟩) hb1] at c2
      obtain ⟨⟨t, a, i⟩, ho⟩ : ∃ o : Op3, l.getD k (0, 0, 0) = o := ⟨_, rfl⟩
      rw [ho] at c0 c1 c2
      have hto := hin (t, a, i) (by rw [← ho]; simp [List.getD, List.getElem?_eq_getElem hlt])
      have HT : Hid (l.take (k + 1) = l.take k ++ [(t, a, i)]) := by
        show l.take (k + 1) = l.take k ++ [(t, a, i)]
        rw [List.take_succ_eq_append_getElem hlt, ← ho]; simp [List.getD, List.getElem?_eq_getElem hlt]
      have hsz := hbel.size
      have hcw : ∀ j, j < 7 → wr.cell? ⟨c, j, none⟩ = some (.bool (f j)) := fun j hj => by rw [hbel.cell (p := ⟨c, j, none⟩) hcl]; exact hc j hj
      have HCW : Hid (∀ j, j < 7 → wr.cell? ⟨c, j, none⟩ = some (.bool (f j))) := hcw
      have HC0 : Hid (∀ j, j < 7 → w.cell? ⟨c, j, none⟩ = some (.bool (f j))) := hc
      clear hcw hc
      obtain ⟨ht1, ht6⟩ := hto
      simp only at ht1 ht6
      have hkl := take_len (fun o : Op3 => f o.1.toNat) l k
      clear ho hops ha hbB
      simp only at c0 c1 c2
      cases hq : (fun o : Op3 => f o.1.toNat) (t, a, i) with
      | false =>
        have HQ : Hid ((fun o : Op3 => f o.1.toNat) (t, a, i) = false) := hq
        simp only at hq
        go_wp2_with (go_at_call 42; refine (done1_any t a i c f _ (fun j hj => by rw [World.cell?_alloc_lt _ _ ⟨c, j, none⟩ (by simp; omega)]; exact HCW.out j hj) (by simp; omega) ht1 ht6).mono ?_; rintro e w' ⟨rfl, rfl⟩)
        go_roundw
        case rel => exact ⟨k + 1, by omega, by go_num, by rw [filter_snoc _ l k _ HT.out, HQ.out]; simpa using (hown.alloc _).alloc _, (hbel.alloc (by omega) _).alloc (by simp; omega) _⟩
        case measure => simp [intOf]; omega
      | true =>
        have HQ : Hid ((fun o : Op3 => f o.1.toNat) (t, a, i) = true) := hq
        simp only at hq
        obtain ⟨i0, hi, hz0, hs0, hy0⟩ := info_parts infoOp
        have HI : Hid (Try.prog.info? 24 = some i0 ∧ i0.zero = some (.agg #[.int .i64 0, .int .i64 0, .int .i64 0]) ∧ i0.size = 3 ∧ i0.bytes = 24) := ⟨hi, hz0, hs0, hy0⟩
        clear hi hz0 hs0 hy0
        go_wp2_with (first | (go_at_call 42; refine (done1_any t a i c f _ (fun j hj => by rw [World.cell?_alloc_lt _ _ ⟨c, j, none⟩ (by simp; omega)]; exact HCW.out j hj) (by simp; omega) ht1 ht6).mono ?_; rintro e w' ⟨rfl, rfl⟩) | (at_builtin; refine wpList_append_own _ rfl (.tmp 17) (.tmp 19) 22 rfl w.heap.size 24 i0 (.agg #[.int .i64 0, .int .i64 0, .int .i64 0]) 3 24 Try.underlying22 HI.out.1 HI.out.2.1 HI.out.2.2.1 HI.out.2.2.2 rfl (by decide) u5 ((l.take k).filter (fun o : Op3 => f o.1.toNat)).length (flat ((l.take k).filter (fun o : Op3 => f o.1.toNat))) rfl (((hown.alloc _).alloc _).alloc _) ⟨wr.heap.size + 1 + 1, 0, none⟩ 1 1 (flat [(t, a, i)]) rfl rfl (by have := one_at ((wr.alloc (.cells #[.int .i64 t, .int .i64 a, .int .i64 i] 24)).alloc (.cells #[.int .i64 t, .int .i64 a, .int .i64 i] 24)) t a i; simpa using this) (flat_one _) (by unfold maxLen; omega) (by omega) (by simp; omega) ?_; intro v' w1 hown1 hgr1 hnil1))
        have hB1 := (((hbel.alloc hsz _).alloc (by simp; omega) _).alloc (by simp; omega) _).grown hgr1 (by simp; omega) (fun m hm => (hown.lt m hm).1)
        go_roundw
        case rel => exact ⟨k + 1, by omega, by go_num, by rw [filter_snoc _ l k _ HT.out, HQ.out]; simpa [flat_append] using hown1, hB1⟩
        case measure => simp [intOf]; omega
    · go_wp2
      go_ret
      exact ⟨_, rfl, by rw [List.take_of_length_le (by omega)] at hown; exact isOps_own hown rfl, hbel⟩

end Go.Proofs.Ytmjjiehnjghndaa

namespace Go.Proofs.Ytmjjiehnjghndaa
open Go.RowKit

/-- Does a deal commit among these ops? -/
def commIn (l : List Op3) (t : Nat) : Bool := l.any fun o => o.1 == (t : Int) && o.2.1 == 3
def doneL (l : List Op3) : List Op3 := l.filter fun o => commIn l o.1.toNat
def ofL (l : List Op3) (tx : Int) : List Op3 := l.filter fun o => o.1 == tx
theorem commIn_snoc (l : List Op3) (o : Op3) (t : Nat) : commIn (l ++ [o]) t = (commIn l t || (o.1 == (t : Int) && o.2.1 == 3)) := by simp [commIn]
theorem chk_len {l : List Op3} (h : (chk l).2 = 0) : l.length ≤ 40 := by
  unfold chk at h
  split at h
  · simp at h
  · omega
theorem chk_ops {l : List Op3} (h : (chk l).2 = 0) : ∀ o ∈ l, isOpB o = true := by
  rw [chk_short l (chk_len h)] at h
  exact chkFrom_ops l [] h

/-- The array of those that commit. -/
def CommAt (w : World) (B : Nat) (l : List Op3) : Prop := ∀ j, j < 7 → w.cell? ⟨B, j, none⟩ = some (.bool (commIn l j)) ∧ w.frozen? ⟨B, j, none⟩ = false
theorem CommAt.lt {w : World} {B : Nat} {l : List Op3} (h : CommAt w B l) : B < w.heap.size := World.block_lt_of_cell? w _ (h 0 (by omega)).1
theorem comm_start (l : List Op3) (w : World) : CommAt (w.alloc (.cells #[.bool false, .bool false, .bool false, .bool false, .bool false, .bool false, .bool false] 63)) w.heap.size (List.take 0 l) := by
  intro j hj
  match j, hj with
  | 0, _ => exact ⟨by simp [commIn], by simp⟩
  | 1, _ => exact ⟨by simp [commIn], by simp⟩
  | 2, _ => exact ⟨by simp [commIn], by simp⟩
  | 3, _ => exact ⟨by simp [commIn], by simp⟩
  | 4, _ => exact ⟨by simp [commIn], by simp⟩
  | 5, _ => exact ⟨by simp [commIn], by simp⟩
  | 6, _ => exact ⟨by simp [commIn], by simp⟩
theorem CommAt.same {w : World} {B : Nat} {l : List Op3} {t a i : Int} (h : CommAt w B l) (ha : a ≠ 3) (o1 : Obj) : CommAt (w.alloc o1) B (l ++ [(t, a, i)]) := by
  have hlt := h.lt
  intro j hj
  obtain ⟨hc, hf⟩ := h j hj
  constructor
  · rw [World.cell?_alloc_lt _ _ ⟨B, j, none⟩ hlt, commIn_snoc, hc]
    simp [ha]
  · rw [World.frozen?_alloc_old _ _ ⟨B, j, none⟩ (by simp; omega)]; exact hf
theorem CommAt.step {w : World} {B : Nat} {l : List Op3} {t i : Int} (h : CommAt w B l) (h1 : 1 ≤ t) (h6 : t ≤ 6) (o1 : Obj) : CommAt ((w.setCell ⟨B, t.toNat, none⟩ (.bool true)).alloc o1) B (l ++ [(t, 3, i)]) := by
  have hlt := h.lt
  intro j hj
  obtain ⟨hc, hf⟩ := h j hj
  obtain ⟨hct, _⟩ := h t.toNat (by omega)
  constructor
  · rw [World.cell?_alloc_lt _ _ ⟨B, j, none⟩ (by simp; omega), commIn_snoc]
    by_cases hjt : j = t.toNat
    · subst hjt
      rw [World.cell?_setCell_same _ _ _ hct, show ((t.toNat : Nat) : Int) = t by omega]; simp
    · rw [World.cell?_setCell_other _ _ _ _ (by intro he; injection he with _ he2 _; exact hjt he2.symm), hc]
      have : (t == (j : Int)) = false := by simp; omega
      simp [this]
  · rw [World.frozen?_alloc_old _ _ ⟨B, j, none⟩ (by simp; omega)]
    simpa using hf

set_option maxHeartbeats 4000000 in
theorem done_ok (l : List Op3) (v : Value) (w : World) (h : IsOps w v l) (hc : (chk l).2 = 0) :
    Calls Try.prog 23 #[v] w fun e w' => ∃ v', e = .returned (.tuple #[v', .nilIface]) ∧ IsOps w' v' (doneL l) ∧ Below w.heap.size w w' := by
  have hl40 := chk_len hc
  have hopsv := chk_ops hc
  have HV : Hid (∀ o ∈ l, isOpB o = true) := hopsv
  clear hopsv
  have hI := h
  obtain ⟨ad, b, off, cap, rfl, ha, hn, hbB, hops⟩ := h
  go_enter Try.func23, Try.ntmps23
  go_wp2_with (go_at_call 20; refine (check_ok l _ _ hI hc).mono ?_; rintro e w1 ⟨rfl, hb1⟩)
  go_loopw [19] (fun v19 wr => ∃ k : Nat, k ≤ l.length ∧ v19 = .int .i64 k ∧ CommAt wr w1.heap.size (l.take k) ∧ Below w1.heap.size w1 wr) (fun v19 _ => l.length - (intOf v19).toNat)
  case atStart => exact ⟨0, Nat.zero_le _, rfl, comm_start l w1, (Below.refl _ _).alloc (Nat.le_refl _) _⟩
  case round =>
    obtain ⟨k, hk, rfl, hcm, hbel⟩ := hrel
    have hs1 := hb1.size
    have hsz : w1.heap.size < wr.heap.size := hcm.lt
    by_cases hlt : k < l.length
    · obtain rfl := ha (by omega)
      obtain ⟨c0, c1, c2⟩ := hops k hlt
      have hb0 : b < w.heap.size := by
        rcases hbB with h | h
        · exact h
        · subst h; simp at hlt
      rw [← hb1.cell (p := ⟨b, off + k * 3, none⟩) hb0, ← hbel.cell (p := ⟨b, off + k * 3, none⟩) (by simp; omega)] at c0
      rw [← hb1.cell (p := ⟨b, off + k * 3 + 1, none⟩) hb0, ← hbel.cell (p := ⟨b, off + k * 3 + 1, none⟩) (by simp; omega)] at c1
      rw [← hb1.cell (p := ⟨b, off + k * 3 + 2, none⟩) hb0, ← hbel.cell (p := ⟨b, off + k * 3 + 2, none⟩) (by simp; omega)] at c2
      obtain ⟨⟨t, a, i⟩, ho⟩ : ∃ o : Op3, l.getD k (0, 0, 0) = o := ⟨_, rfl⟩
      rw [ho] at c0 c1 c2
      have hto := isOp_tx (HV.out (t, a, i) (by rw [← ho]; simp [List.getD, List.getElem?_eq_getElem hlt]))
      have HT : Hid (l.take (k + 1) = l.take k ++ [(t, a, i)]) := by
        show l.take (k + 1) = l.take k ++ [(t, a, i)]
        rw [List.take_succ_eq_append_getElem hlt, ← ho]; simp [List.getD, List.getElem?_eq_getElem hlt]
      obtain ⟨ht1, ht6⟩ := hto
      clear ho hops ha hbB hn hI hc
      simp only at c0 c1 c2 ht1 ht6
      by_cases h3 : a = 3
      · subst h3
        obtain ⟨hc1, hc2⟩ := hcm t.toNat (by omega)
        go_wp2
        go_roundw
        case rel => exact ⟨k + 1, by omega, by go_num, by rw [HT.out]; exact hcm.step ht1 ht6 _, (hbel.setCell (by simp) _).alloc (by simp; omega) _⟩
        case measure => simp [intOf]; omega
      · have h3' : (a == 3) = false := by simpa using h3
        have H3 : Hid (a ≠ 3) := h3
        clear h3
        go_wp2
        go_roundw
        case rel => exact ⟨k + 1, by omega, by go_num, by rw [HT.out]; exact hcm.same H3.out _, hbel.alloc (by omega) _⟩
        case measure => simp [intOf]; omega
    · have hcm' : CommAt wr w1.heap.size l := by rw [List.take_of_length_le (by omega)] at hcm; exact hcm
      have hbw : Below w.heap.size w wr := hb1.trans (hbel.mono hs1)
      go_wp2_with (go_at_call 21; refine (keep_done l ad b off cap w1.heap.size (commIn l) (fun o ho => isOp_tx (HV.out o ho)) _ (by omega) ha (by rcases hbB with h | h; exact .inl (by omega); exact .inr h) (hops.below hbw hbB) (fun j hj => (hcm' j hj).1) hsz).mono ?_; rintro e w2 ⟨v2, rfl, hI2, hb2⟩)
      go_ret2
      exact ⟨_, rfl, hI2, hbw.trans (hb2.mono hbw.size)⟩

set_option maxHeartbeats 2000000 in
theorem of_ok (l : List Op3) (v : Value) (tx : Int) (w : World) (h : IsOps w v l) (hc : (chk l).2 = 0) (h1 : 1 ≤ tx) (h6 : tx ≤ 6) :
    Calls Try.prog 8 #[v, .int .i64 tx] w fun e w' => ∃ v', e = .returned (.tuple #[v', .nilIface]) ∧ IsOps w' v' (ofL l tx) ∧ Below w.heap.size w w' := by
  have hl40 := chk_len hc
  have hI := h
  obtain ⟨ad, b, off, cap, rfl, ha, hn, hbB, hops⟩ := h
  go_enter Try.func8, Try.ntmps8
  go_wp2_with (first | (go_at_call 20; refine (check_ok l _ _ hI hc).mono ?_; rintro e w1 ⟨rfl, hb1⟩; have hs1 := hb1.size) | (go_at_call 21; refine (keep_of l ad b off cap w1.heap.size tx _ (by omega) ha (by rcases hbB with h | h; exact .inl (by simp; omega); exact .inr h) ((hops.below hb1 hbB).below ((Below.refl w1.heap.size w1).alloc (Nat.le_refl _) _) (by rcases hbB with h | h; exact .inl (by omega); exact .inr h)) (by simp) (by simp)).mono ?_; rintro e w2 ⟨v2, rfl, hI2, hb2⟩) | go_in)
  go_ret2
  exact ⟨_, rfl, hI2, (hb1.alloc (by omega) _).trans (hb2.mono (by simp; omega))⟩
end Go.Proofs.Ytmjjiehnjghndaa
