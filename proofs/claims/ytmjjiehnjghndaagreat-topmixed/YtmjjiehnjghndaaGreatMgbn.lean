/-
  PROVED HERE: slices.IndexFunc and slices.ContainsFunc over a slice of locks, for any closure: they tell whether, and where first, there is one that the closure says yes to. Old memory stays as it was.
  Conditions: what the closure answers is a premise.
  PROVED HERE: package locks' small functions and closures: isDeal, isLock, isSamePlace, isOf, isAtOdds and what they make, and the closures of Ask, For and hold, in whatever world holds what they captured. Old memory stays as it was.
  Conditions: none.
-/
import Derived.Test.YtmjjiehnjghndaaGreatMgbm
namespace Go.Proofs.YtmjjiehnjghndaaGreat
open Go.RowKit

theorem noneL_snoc {q : Op3 → Bool} {l : List Op3} {k : Nat} {e : Op3} (h : l.take (k + 1) = l.take k ++ [e]) (h1 : (l.take k).any q = false) (h2 : q e = false) : (l.take (k + 1)).any q = false := by
  rw [h, List.any_append, h1]; simp [h2]
/-- What IndexFunc answers. -/
def FirstL (l : List Op3) (q : Op3 → Bool) (n : Int) : Prop := (n = -1 ∧ l.any q = false) ∨ ∃ k : Nat, n = k ∧ k < l.length ∧ q (opAt l k) = true ∧ (l.take k).any q = false
theorem FirstL.sign {l : List Op3} {q : Op3 → Bool} {n : Int} (h : FirstL l q n) : decide (0 ≤ n) = l.any q := by
  rcases h with ⟨rfl, h⟩ | ⟨k, rfl, hk, hq, _⟩
  · rw [h]; rfl
  · have : l.any q = true := List.any_eq_true.2 ⟨_, opAt_mem hk, hq⟩
    rw [this]; simp
theorem FirstL.none {l : List Op3} {q : Op3 → Bool} (h : l.any q = false) : FirstL l q (-1) := .inl ⟨rfl, h⟩
theorem FirstL.some {l : List Op3} {q : Op3 → Bool} {k : Nat} {e : Op3} (hk : k < l.length) (he : opAt l k = e) (hq : q e = true) (h : (l.take k).any q = false) : FirstL l q (k : Int) := .inr ⟨k, rfl, hk, by rw [he]; exact hq, h⟩
theorem any_take_not {l : List Op3} {q : Op3 → Bool} {k j : Nat} (h : (l.take k).any q = false) (hj : j < k) (hk : k ≤ l.length) : q (opAt l j) = false := by
  have hm : opAt l j ∈ l.take k := by
    rw [List.mem_iff_getElem]
    exact ⟨j, by simp; omega, by simp [opAt, List.getD, List.getElem?_eq_getElem (show j < l.length by omega)]⟩
  simpa using List.any_eq_false.1 h _ hm
set_option maxHeartbeats 4000000 in
theorem index_lock (l : List Op3) (v : Value) (q : Op3 → Bool) (N : Nat) (C : Array Value) (w : World) (hcall : ∀ (args : Array Value) (W : World), (callFunc N args).run Tryz.prog W = .ok (.enter N args) W) (hI : IsOps w v l) (hlen : l.length ≤ 140737488351)
    (hp : ∀ W : World, Below w.heap.size w W → ∀ e ∈ l, Calls Tryz.prog N (#[lkV e] ++ C) W fun r w' => r = .returned (.bool (q e)) ∧ Below W.heap.size W w') :
    Calls Tryz.prog 100 #[v, .func (.func N) #[] C] w fun r w' => ∃ n : Int, r = .returned (.int .i64 n) ∧ FirstL l q n ∧ Below w.heap.size w w' := by
  obtain ⟨ad, b, off, cap, rfl, ha, _, hbB, hops⟩ := hI
  have HO : Hid (∀ W, Below w.heap.size w W → ∀ k, k < l.length → ad = some ⟨b, off, none⟩ ∧ W.cell? ⟨b, off + k * 3, none⟩ = some (.int .i64 (opAt l k).1) ∧ W.cell? ⟨b, off + k * 3 + 1, none⟩ = some (.int .i64 (opAt l k).2.1) ∧ W.cell? ⟨b, off + k * 3 + 2, none⟩ = some (.int .i64 (opAt l k).2.2)) := fun W hW k hk => ⟨ha (by omega), (hops.below hW hbB) k hk⟩
  have HP : Hid (∀ W : World, Below w.heap.size w W → ∀ e ∈ l, Calls Tryz.prog N (#[lkV e] ++ C) W fun r w' => r = .returned (.bool (q e)) ∧ Below W.heap.size W w') := hp
  clear ha hbB hops hp
  go_enter Tryz.func100, Tryz.ntmps100
  go_wp2
  go_loopw [8] (fun v8 wr => ∃ k : Nat, k ≤ l.length ∧ v8 = .int .i64 k ∧ (l.take k).any q = false ∧ Below w.heap.size w wr) (fun v8 _ => l.length - (intOf v8).toNat)
  case atStart => exact ⟨0, Nat.zero_le _, rfl, by simp, Below.refl _ _⟩
  case round =>
    obtain ⟨k, hk, rfl, hno, hbel⟩ := hrel
    have HNO : Hid ((l.take k).any q = false) := hno
    clear hno
    have hsz := hbel.size
    by_cases hlt : k < l.length
    · have hlt' : (k : Int) < (l.length : Int) := by omega
      obtain ⟨rfl, c0, c1, c2⟩ := HO.out wr hbel k hlt
      obtain ⟨⟨t, a, i⟩, ho⟩ : ∃ o : Op3, opAt l k = o := ⟨_, rfl⟩
      rw [ho] at c0 c1 c2
      have hmem : (t, a, i) ∈ l := by rw [← ho]; exact opAt_mem hlt
      have HT : Hid (l.take (k + 1) = l.take k ++ [(t, a, i)]) := by
        show l.take (k + 1) = l.take k ++ [(t, a, i)]
        rw [List.take_succ_eq_append_getElem hlt, ← ho]; simp [opAt, List.getD, List.getElem?_eq_getElem hlt]
      have HM : Hid ((t, a, i) ∈ l) := hmem
      have HG : Hid (opAt l k = (t, a, i)) := ho
      clear ho HO hmem
      simp only at c0 c1 c2
      cases hq : q (t, a, i) with
      | false =>
        have HQ : Hid (q (t, a, i) = false) := hq
        have HC : Hid (Calls Tryz.prog N (#[.agg #[.int .i64 t, .int .i64 a, .int .i64 i]] ++ C) wr fun r w' => r = .returned (.bool false) ∧ Below wr.heap.size wr w') := hq ▸ HP.out wr hbel _ HM.out
        clear hq
        go_wp2_with fail
        refine HC.out.mono ?_
        rintro e w1 ⟨rfl, hb1⟩
        go_wp2_with fail
        go_roundw
        case rel => exact ⟨k + 1, by omega, by go_num, noneL_snoc HT.out HNO.out HQ.out, hbel.trans (hb1.mono hsz)⟩
        case measure => simp [intOf]; omega
      | true =>
        have HQ : Hid (q (t, a, i) = true) := hq
        have HC : Hid (Calls Tryz.prog N (#[.agg #[.int .i64 t, .int .i64 a, .int .i64 i]] ++ C) wr fun r w' => r = .returned (.bool true) ∧ Below wr.heap.size wr w') := hq ▸ HP.out wr hbel _ HM.out
        clear hq
        go_wp2_with fail
        refine HC.out.mono ?_
        rintro e w1 ⟨rfl, hb1⟩
        go_wp2_with fail
        go_ret
        exact ⟨_, rfl, FirstL.some hlt HG.out HQ.out HNO.out, hbel.trans (hb1.mono hsz)⟩
    · have hlt' : ¬ (k : Int) < (l.length : Int) := by omega
      go_wp2_with fail
      go_ret
      refine ⟨_, rfl, FirstL.none ?_, hbel⟩
      have h0 := HNO.out
      rw [List.take_of_length_le (by omega)] at h0
      exact h0
theorem contains_lock (l : List Op3) (v : Value) (q : Op3 → Bool) (N : Nat) (C : Array Value) (w : World) (hcall : ∀ (args : Array Value) (W : World), (callFunc N args).run Tryz.prog W = .ok (.enter N args) W) (hI : IsOps w v l) (hlen : l.length ≤ 140737488351)
    (hp : ∀ W : World, Below w.heap.size w W → ∀ e ∈ l, Calls Tryz.prog N (#[lkV e] ++ C) W fun r w' => r = .returned (.bool (q e)) ∧ Below W.heap.size W w') :
    Calls Tryz.prog 75 #[v, .func (.func N) #[] C] w fun r w' => r = .returned (.bool (l.any q)) ∧ Below w.heap.size w w' := by
  have HC : Hid (Calls Tryz.prog 100 #[v, .func (.func N) #[] C] w fun r w' => ∃ n : Int, r = .returned (.int .i64 n) ∧ FirstL l q n ∧ Below w.heap.size w w') := index_lock l v q N C w hcall hI hlen hp
  clear hp hI hcall
  go_enter Tryz.func75, Tryz.ntmps75
  go_wp2_with (go_at_call 100; refine HC.out.mono ?_; rintro e w1 ⟨n, rfl, hn, hb1⟩; have hn1 := hn.sign; clear hn)
  all_goals go_ret
  all_goals exact ⟨ret_bool (by simp_all), hb1⟩
end Go.Proofs.YtmjjiehnjghndaaGreat

namespace Go.Proofs.YtmjjiehnjghndaaGreat
open Go.RowKit

/-- At odds, as package locks asks it. -/
def loddP (y x : Op3) : Bool := y.1 != x.1 && (y.2.1 == x.2.1 && !(y.2.2 == 1 && x.2.2 == 1))
/-- Has it enough already, as package locks asks it. -/
def hasP (y x : Op3) : Bool := likeL y x && (y.2.2 == x.2.2 || y.2.2 == 2)
theorem loddP_eq {y x : Op3} (hy : isLock y = true) (hx : isLock x = true) : loddP y x = lodd y x := by
  unfold loddP lodd
  have h1 : y.2.2 = 1 ∨ y.2.2 = 2 := by simp [isLock] at hy; exact hy.2.2
  have h2 : x.2.2 = 1 ∨ x.2.2 = 2 := by simp [isLock] at hx; exact hx.2.2
  rcases h1 with h1 | h1 <;> rcases h2 with h2 | h2 <;> rw [h1, h2] <;> rfl
theorem hasP_eq {l : List Op3} {x : Op3} (hl : ∀ y ∈ l, isLock y = true) (hx : isLock x = true) : l.any (fun y => hasP y x) = hasL l x := by
  unfold hasL
  rw [Bool.eq_iff_iff, List.any_eq_true, List.any_eq_true]
  have key : ∀ y ∈ l, hasP y x = (y.1 == x.1 && (y.2.1 == x.2.1 && decide (x.2.2 ≤ y.2.2))) := fun y hy => by
    have hy' := hl y hy
    have h1 : y.2.2 = 1 ∨ y.2.2 = 2 := by simp [isLock] at hy'; exact hy'.2.2
    have h2 : x.2.2 = 1 ∨ x.2.2 = 2 := by simp [isLock] at hx; exact hx.2.2
    unfold hasP likeL
    rcases h1 with h1 | h1 <;> rcases h2 with h2 | h2 <;> rw [h1, h2, Bool.and_assoc] <;> rfl
  exact ⟨fun ⟨y, hy, h⟩ => ⟨y, hy, key y hy ▸ h⟩, fun ⟨y, hy, h⟩ => ⟨y, hy, (key y hy).symm ▸ h⟩⟩
theorem clearP_eq {l : List Op3} {x : Op3} (hl : ∀ y ∈ l, isLock y = true) (hx : isLock x = true) : l.any (fun y => loddP y x) = !clearL l x := by
  unfold clearL
  rw [List.not_all_eq_any_not, Bool.eq_iff_iff, List.any_eq_true, List.any_eq_true]
  have key : ∀ y ∈ l, loddP y x = !!lodd y x := fun y hy => by rw [loddP_eq (hl y hy) hx, Bool.not_not]
  exact ⟨fun ⟨y, hy, h⟩ => ⟨y, hy, key y hy ▸ h⟩, fun ⟨y, hy, h⟩ => ⟨y, hy, (key y hy).symm ▸ h⟩⟩
theorem pDeal_any (t : Int) (w : World) : Calls Tryz.prog 98 #[.int .i64 t] w fun e w' => e = .returned (.bool (decide (1 ≤ t ∧ t ≤ 6))) ∧ w' = w := by
  go_enter Tryz.func98, Tryz.ntmps98
  go_wp2
  all_goals go_ret
  all_goals exact ⟨ret_bool (by first | (simp_all; done) | (simp_all; omega)), by first | rfl | simp_all⟩
set_option maxHeartbeats 4000000 in
theorem pLock_raw (t i m : Int) (w : World) : Calls Tryz.prog 74 #[.agg #[.int .i64 t, .int .i64 i, .int .i64 m]] w fun e w' => e = .returned (.bool (isLock (t, i, m))) ∧ Below w.heap.size w w' := by
  go_enter Tryz.func74, Tryz.ntmps74
  go_wp2_with (go_at_call 98; refine (pDeal_any _ _).mono ?_; rintro e w' ⟨rfl, rfl⟩)
  all_goals go_ret
  all_goals exact ⟨ret_bool (by first | (simp_all [isLock]; done) | (simp_all [isLock]; intros; omega)), by exact (Below.refl _ w).alloc (Nat.le_refl _) _⟩
set_option maxHeartbeats 4000000 in
theorem pSame_raw (t i m t2 i2 m2 : Int) (w : World) : Calls Tryz.prog 78 #[.agg #[.int .i64 t, .int .i64 i, .int .i64 m], .agg #[.int .i64 t2, .int .i64 i2, .int .i64 m2]] w fun e w' => e = .returned (.bool (likeL (t, i, m) (t2, i2, m2))) ∧ w' = (w.alloc (.cells #[.int .i64 t, .int .i64 i, .int .i64 m] 99)).alloc (.cells #[.int .i64 t2, .int .i64 i2, .int .i64 m2] 99) := by
  go_enter Tryz.func78, Tryz.ntmps78
  go_wp2
  all_goals go_ret
  all_goals exact ⟨ret_bool (by first | (simp_all [likeL]; done) | (simp_all [likeL]; intros; omega)), by first | rfl | simp_all⟩
/-- A lock in a block of its own. -/
def LockAt (w : World) (P : Nat) (x : Op3) : Prop := w.cell? ⟨P, 0, none⟩ = some (.int .i64 x.1) ∧ w.cell? ⟨P, 1, none⟩ = some (.int .i64 x.2.1) ∧ w.cell? ⟨P, 2, none⟩ = some (.int .i64 x.2.2)
theorem LockAt.lt {w : World} {P : Nat} {x : Op3} (h : LockAt w P x) : P < w.heap.size := World.block_lt_of_cell? w _ h.1
theorem LockAt.below {w w1 : World} {P B : Nat} {x : Op3} (h : LockAt w P x) (hb : Below B w w1) (hB : P < B) : LockAt w1 P x :=
  ⟨(hb.cell (p := ⟨P, 0, none⟩) hB).trans h.1, (hb.cell (p := ⟨P, 1, none⟩) hB).trans h.2.1, (hb.cell (p := ⟨P, 2, none⟩) hB).trans h.2.2⟩
theorem lockAt_box (w : World) (t i m : Int) (T : TypeId) : LockAt (w.alloc (.cells #[.int .i64 t, .int .i64 i, .int .i64 m] T)) w.heap.size (t, i, m) := by
  refine ⟨?_, ?_, ?_⟩ <;> simp
set_option maxHeartbeats 4000000 in
theorem pOf_fn (o : Op3) (t : Int) (P : Nat) (w : World) (hc : w.cell? ⟨P, 0, none⟩ = some (.int .i64 t)) :
    Calls Tryz.prog 101 #[lkV o, .pointer (some ⟨P, 0, none⟩)] w fun e w' => e = .returned (.bool (o.1 == t)) ∧ Below w.heap.size w w' := by
  obtain ⟨t2, i2, m2⟩ := o
  have hP : P < w.heap.size := World.block_lt_of_cell? w _ hc
  go_enter Tryz.func101, Tryz.ntmps101
  go_wp2
  all_goals go_ret
  all_goals exact ⟨rfl, (Below.refl _ w).alloc (Nat.le_refl _) _⟩
set_option maxHeartbeats 4000000 in
theorem pOdds_fn (o x : Op3) (P : Nat) (w : World) (hc : LockAt w P x) :
    Calls Tryz.prog 113 #[lkV o, .pointer (some ⟨P, 0, none⟩)] w fun e w' => e = .returned (.bool (loddP o x)) ∧ Below w.heap.size w w' := by
  obtain ⟨t2, i2, m2⟩ := o
  obtain ⟨t, i, m⟩ := x
  have hP := hc.lt
  obtain ⟨c0, c1, c2⟩ := hc
  simp only at c0 c1 c2
  go_enter Tryz.func113, Tryz.ntmps113
  go_wp2
  all_goals go_ret
  all_goals exact ⟨ret_bool (by first | (simp_all [loddP]; done) | (simp_all [loddP]; intros; omega)), (Below.refl _ w).alloc (Nat.le_refl _) _⟩
set_option maxHeartbeats 4000000 in
theorem pHad_fn (o x : Op3) (P : Nat) (w : World) (hc : LockAt w P x) :
    Calls Tryz.prog 114 #[lkV o, .pointer (some ⟨P, 0, none⟩)] w fun e w' => e = .returned (.bool (likeL o x)) ∧ Below w.heap.size w w' := by
  obtain ⟨t2, i2, m2⟩ := o
  obtain ⟨t, i, m⟩ := x
  have hP := hc.lt
  obtain ⟨c0, c1, c2⟩ := hc
  simp only at c0 c1 c2
  go_enter Tryz.func114, Tryz.ntmps114
  go_wp2_with (go_at_call 78; refine (pSame_raw _ _ _ _ _ _ _).mono ?_; rintro e w' ⟨rfl, rfl⟩)
  all_goals go_ret
  all_goals exact ⟨rfl, (((Below.refl _ w).alloc (Nat.le_refl _) _).alloc (by simp) _).alloc (by simp; omega) _⟩
set_option maxHeartbeats 4000000 in
theorem pEnough_fn (o x : Op3) (P : Nat) (w : World) (hc : LockAt w P x) :
    Calls Tryz.prog 77 #[lkV o, .pointer (some ⟨P, 0, none⟩)] w fun e w' => e = .returned (.bool (hasP o x)) ∧ Below w.heap.size w w' := by
  obtain ⟨t2, i2, m2⟩ := o
  obtain ⟨t, i, m⟩ := x
  have hP := hc.lt
  obtain ⟨c0, c1, c2⟩ := hc
  simp only at c0 c1 c2
  go_enter Tryz.func77, Tryz.ntmps77
  go_upto_region 1 with (fail)
  obtain ⟨W, hW⟩ : ∃ W, W = w.alloc (.cells #[.int .i64 t2, .int .i64 i2, .int .i64 m2] 99) := ⟨_, rfl⟩
  rw [← hW]
  have hbW : Below w.heap.size w W := by rw [hW]; exact (Below.refl _ w).alloc (Nat.le_refl _) _
  obtain ⟨p0, p1, p2⟩ : LockAt W w.heap.size (t2, i2, m2) := by rw [hW]; exact lockAt_box _ _ _ _ _
  simp only at p0 p1 p2
  have d0 := (hbW.cell (p := ⟨P, 0, none⟩) hP).trans c0
  have d1 := (hbW.cell (p := ⟨P, 1, none⟩) hP).trans c1
  have d2 := (hbW.cell (p := ⟨P, 2, none⟩) hP).trans c2
  have hPW : w.heap.size < W.heap.size := World.block_lt_of_cell? W _ p0
  obtain ⟨Q, hQ⟩ : ∃ Q, Q = w.heap.size := ⟨_, rfl⟩
  rw [← hQ] at p0 p1 p2 hPW hP ⊢
  have HQ : Hid (Q = w.heap.size) := hQ
  have HB : Hid (Below w.heap.size w W) := hbW
  have HS : Hid (∀ W : World, Calls Tryz.prog 78 #[.agg #[.int .i64 t2, .int .i64 i2, .int .i64 m2], .agg #[.int .i64 t, .int .i64 i, .int .i64 m]] W fun e w' => e = .returned (.bool (likeL (t2, i2, m2) (t, i, m))) ∧ Below W.heap.size W w') := fun W => (pSame_raw _ _ _ _ _ _ W).mono fun _ _ ⟨he, hw⟩ => ⟨he, by rw [hw]; exact ((Below.refl _ W).alloc (Nat.le_refl _) _).alloc (by simp) _⟩
  clear hW hbW hQ c0 c1 c2
  go_wp2_with fail
  refine (HS.out W).mono ?_
  rintro e w1 ⟨rfl, hb1⟩
  have q2 := (hb1.cell (p := ⟨Q, 2, none⟩) hPW).trans p2
  have f2 := (hb1.cell (p := ⟨P, 2, none⟩) (by simp; omega)).trans d2
  have HB1 : Hid (Below w.heap.size w w1) := HB.out.trans (hb1.mono (by have := HQ.out; omega))
  obtain ⟨b, hb⟩ : ∃ b, likeL (t2, i2, m2) (t, i, m) = b := ⟨_, rfl⟩
  rw [hb]
  have HL : Hid (likeL (t2, i2, m2) (t, i, m) = b) := hb
  clear hb hb1 p0 p1 p2 d0 d1 d2
  cases b with
  | false =>
    go_wp2_with fail
    go_ret
    exact ⟨ret_bool (by unfold hasP; rw [HL.out]; rfl), HB1.out⟩
  | true =>
    go_wp2
    all_goals go_ret
    all_goals exact ⟨ret_bool (by unfold hasP; rw [HL.out]; simp_all), HB1.out⟩
/-- What For's closure answers: it is that deal's, and at odds. -/
theorem pStops_fn (o x : Op3) (t : Int) (P1 P2 P : Nat) (w : World) (h1 : w.cell? ⟨P1, 0, none⟩ = some (.int .i64 t)) (h2 : w.cell? ⟨P2, 0, none⟩ = some (.func (.func 113) #[] #[.pointer (some ⟨P, 0, none⟩)])) (hc : LockAt w P x) :
    Calls Tryz.prog 117 #[lkV o, .pointer (some ⟨P1, 0, none⟩), .pointer (some ⟨P2, 0, none⟩)] w fun e w' => e = .returned (.bool (o.1 == t && loddP o x)) ∧ Below w.heap.size w w' := by
  obtain ⟨t2, i2, m2⟩ := o
  have hP1 : P1 < w.heap.size := World.block_lt_of_cell? w _ h1
  have hP2 : P2 < w.heap.size := World.block_lt_of_cell? w _ h2
  have HO : Hid (∀ W, Below w.heap.size w W → Calls Tryz.prog 113 #[.agg #[.int .i64 t2, .int .i64 i2, .int .i64 m2], .pointer (some ⟨P, 0, none⟩)] W fun e w' => e = .returned (.bool (loddP (t2, i2, m2) x)) ∧ Below W.heap.size W w') := fun W hW => pOdds_fn (t2, i2, m2) x P W (hc.below hW hc.lt)
  have hcall : ∀ (args : Array Value) (W : World), (callFunc 113 args).run Tryz.prog W = .ok (.enter 113 args) W := fun args W => by kernel_rfl
  clear hc
  go_enter Tryz.func117, Tryz.ntmps117
  go_upto_region 1 with (fail)
  obtain ⟨W, hW⟩ : ∃ W, W = w.alloc (.cells #[.int .i64 t2, .int .i64 i2, .int .i64 m2] 99) := ⟨_, rfl⟩
  rw [← hW]
  have hbW : Below w.heap.size w W := by rw [hW]; exact (Below.refl _ w).alloc (Nat.le_refl _) _
  obtain ⟨p0, p1, p2⟩ : LockAt W w.heap.size (t2, i2, m2) := by rw [hW]; exact lockAt_box _ _ _ _ _
  simp only at p0 p1 p2
  have d1 := (hbW.cell (p := ⟨P1, 0, none⟩) hP1).trans h1
  have d2 := (hbW.cell (p := ⟨P2, 0, none⟩) hP2).trans h2
  obtain ⟨Q, hQ⟩ : ∃ Q, Q = w.heap.size := ⟨_, rfl⟩
  rw [← hQ] at p0 p1 p2 ⊢
  have HQ : Hid (Q = w.heap.size) := hQ
  have HB : Hid (Below w.heap.size w W) := hbW
  clear hW hbW hQ h1 h2
  by_cases he : t2 = t
  · subst he
    go_wp2_with fail
    refine (HO.out W HB.out).mono ?_
    rintro e w1 ⟨rfl, hb1⟩
    go_wp2_with fail
    go_ret
    exact ⟨ret_bool (by simp), HB.out.trans (hb1.mono HB.out.size)⟩
  · have he' : (t2 == t) = false := by simpa using he
    go_wp2_with fail
    go_ret
    exact ⟨ret_bool (by rw [he']; rfl), HB.out⟩
theorem pOf_any (t : Int) (w : World) : Calls Tryz.prog 76 #[.int .i64 t] w fun e w' => e = .returned (.func (.func 101) #[] #[.pointer (some ⟨w.heap.size, 0, none⟩)]) ∧ w'.cell? ⟨w.heap.size, 0, none⟩ = some (.int .i64 t) ∧ Below w.heap.size w w' := by
  go_enter Tryz.func76, Tryz.ntmps76
  go_wp2
  all_goals go_ret
  all_goals exact ⟨rfl, by simp, (Below.refl _ w).alloc (Nat.le_refl _) _⟩
theorem pOdds_any (x : Op3) (w : World) : Calls Tryz.prog 102 #[lkV x] w fun e w' => e = .returned (.func (.func 113) #[] #[.pointer (some ⟨w.heap.size, 0, none⟩)]) ∧ LockAt w' w.heap.size x ∧ Below w.heap.size w w' := by
  obtain ⟨t, i, m⟩ := x
  go_enter Tryz.func102, Tryz.ntmps102
  go_wp2
  all_goals go_ret
  all_goals exact ⟨rfl, lockAt_box _ _ _ _ _, (Below.refl _ w).alloc (Nat.le_refl _) _⟩
theorem call_of : ∀ (args : Array Value) (W : World), (callFunc 101 args).run Tryz.prog W = .ok (.enter 101 args) W := fun args W => by kernel_rfl
theorem call_odds : ∀ (args : Array Value) (W : World), (callFunc 113 args).run Tryz.prog W = .ok (.enter 113 args) W := fun args W => by kernel_rfl
theorem call_had : ∀ (args : Array Value) (W : World), (callFunc 114 args).run Tryz.prog W = .ok (.enter 114 args) W := fun args W => by kernel_rfl
theorem call_enough : ∀ (args : Array Value) (W : World), (callFunc 77 args).run Tryz.prog W = .ok (.enter 77 args) W := fun args W => by kernel_rfl
theorem call_stops : ∀ (args : Array Value) (W : World), (callFunc 117 args).run Tryz.prog W = .ok (.enter 117 args) W := fun args W => by kernel_rfl
end Go.Proofs.YtmjjiehnjghndaaGreat
