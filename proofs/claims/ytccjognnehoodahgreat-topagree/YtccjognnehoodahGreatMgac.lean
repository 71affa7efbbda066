/-
  PROVED HERE: history.Done gives the ops of the deals that commit, in order, of a list that is right; of any other Check's error. history.Of gives a deal's ops. Old memory stays as it was.
  Conditions: none.
  PROVED HERE: how a list of numbers lies in memory, as a slice value that came in or that the program made itself; and what is owned stays owned where nothing that was there turns.
  Conditions: none.
  PROVED HERE: history.Deals gives the deals that have an op, rising, of a list that is right; of any other Check's error. Old memory stays as it was.
  Conditions: none.
  PROVED HERE: plain facts on histories, with no word of the program: which lists are right; parts of a right list are right; what is done twice is what is done; the deals rise, and their ops are all the ops.
  Conditions: none.
-/
import Derived.Test.YtccjognnehoodahGreatMgab
import Derived.Test.YtccjognnehoodahGreatProg
import Derived.WalkKit
import Derived.WalkSpells
import Derived.Handy
namespace Go.Proofs.YtccjognnehoodahGreat
open Go.RowKit

/-- Does a deal commit among these ops? -/
def commIn (l : List Op3) (t : Nat) : Bool := l.any fun o => o.1 == (t : Int) && o.2.1 == 3
def doneL (l : List Op3) : List Op3 := l.filter fun o => commIn l o.1.toNat
def ofL (l : List Op3) (tx : Int) : List Op3 := l.filter fun o => o.1 == tx
theorem commIn_snoc (l : List Op3) (o : Op3) (t : Nat) : commIn (l ++ [o]) t = (commIn l t || (o.1 == (t : Int) && o.2.1 == 3)) := by simp [commIn]
theorem chk_len {l : List Op3} (h : (chk l).2 = 0) : l.length ≤ 40 := by
  unfold chk at h
  split at h
  · simp at h
  · omega
theorem chk_ops {l : List Op3} (h : (chk l).2 = 0) : ∀ o ∈ l, isOpB o = true := by
  rw [chk_short l (chk_len h)] at h
  exact chkFrom_ops l [] h

/-- The array of those that commit. -/
def CommAt (w : World) (B : Nat) (l : List Op3) : Prop := ∀ j, j < 7 → w.cell? ⟨B, j, none⟩ = some (.bool (commIn l j)) ∧ w.frozen? ⟨B, j, none⟩ = false
theorem CommAt.lt {w : World} {B : Nat} {l : List Op3} (h : CommAt w B l) : B < w.heap.size := World.block_lt_of_cell? w _ (h 0 (by omega)).1
theorem comm_start (l : List Op3) (w : World) : CommAt (w.alloc (.cells #[.bool false, .bool false, .bool false, .bool false, .bool false, .bool false, .bool false] 55)) w.heap.size (List.take 0 l) := by
  intro j hj
  match j, hj with
  | 0, _ => exact ⟨by simp [commIn], by simp⟩
  | 1, _ => exact ⟨by simp [commIn], by simp⟩
  | 2, _ => exact ⟨by simp [commIn], by simp⟩
  | 3, _ => exact ⟨by simp [commIn], by simp⟩
  | 4, _ => exact ⟨by simp [commIn], by simp⟩
  | 5, _ => exact ⟨by simp [commIn], by simp⟩
  | 6, _ => exact ⟨by simp [commIn], by simp⟩
theorem CommAt.same {w : World} {B : Nat} {l : List Op3} {t a i : Int} (h : CommAt w B l) (ha : a ≠ 3) (o1 : Obj) : CommAt (w.alloc o1) B (l ++ [(t, a, i)]) := by
  have hlt := h.lt
  intro j hj
  obtain ⟨hc, hf⟩ := h j hj
  constructor
  · rw [World.cell?_alloc_lt _ _ ⟨B, j, none⟩ hlt, commIn_snoc, hc]
    simp [ha]
  · rw [World.frozen?_alloc_old _ _ ⟨B, j, none⟩ (by simp; omega)]; exact hf
theorem CommAt.step {w : World} {B : Nat} {l : List Op3} {t i : Int} (h : CommAt w B l) (h1 : 1 ≤ t) (h6 : t ≤ 6) (o1 : Obj) : CommAt ((w.setCell ⟨B, t.toNat, none⟩ (.bool true)).alloc o1) B (l ++ [(t, 3, i)]) := by
  have hlt := h.lt
  intro j hj
  obtain ⟨hc, hf⟩ := h j hj
  obtain ⟨hct, _⟩ := h t.toNat (by omega)
  constructor
  · rw [World.cell?_alloc_lt _ _ ⟨B, j, none⟩ (by simp; omega), commIn_snoc]
    by_cases hjt : j = t.toNat
    · subst hjt
      rw [World.cell?_setCell_same _ _ _ hct, show ((t.toNat : Nat) : Int) = t by omega]; simp
    · rw [World.cell?_setCell_other _ _ _ _ (by intro he; injection he with _ he2 _; exact hjt he2.symm), hc]
      have : (t == (j : Int)) = false := by simp; omega
      simp [this]
  · rw [World.frozen?_alloc_old _ _ ⟨B, j, none⟩ (by simp; omega)]
    simpa using hf

set_option maxHeartbeats 2000000 in
theorem done_bad (l : List Op3) (v : Value) (w : World) (h : IsOps w v l) (hc : (chk l).2 ≠ 0) :
    Calls Tryz.prog 5 #[v] w fun e w' => e = .returned (.tuple #[.slice none 0 0, .iface 61 (.int .i64 (chk l).2)]) ∧ Below w.heap.size w w' := by
  go_enter Tryz.func5, Tryz.ntmps5
  go_wp2_with (go_at_call 18; refine (check_bad l v _ h hc).mono ?_; rintro e w1 ⟨rfl, hb1⟩)
  go_ret2
  exact ⟨rfl, hb1⟩

set_option maxHeartbeats 4000000 in
theorem done_ok (l : List Op3) (v : Value) (w : World) (h : IsOps w v l) (hc : (chk l).2 = 0) :
    Calls Tryz.prog 5 #[v] w fun e w' => ∃ v', e = .returned (.tuple #[v', .nilIface]) ∧ IsOps w' v' (doneL l) ∧ Below w.heap.size w w' := by
  have hl40 := chk_len hc
  have hopsv := chk_ops hc
  have HV : Hid (∀ o ∈ l, isOpB o = true) := hopsv
  clear hopsv
  have hI := h
  obtain ⟨ad, b, off, cap, rfl, ha, hn, hbB, hops⟩ := h
  go_enter Tryz.func5, Tryz.ntmps5
  go_wp2_with (go_at_call 18; refine (check_ok l _ _ hI hc).mono ?_; rintro e w1 ⟨rfl, hb1⟩)
  go_loopw [19] (fun v19 wr => ∃ k : Nat, k ≤ l.length ∧ v19 = .int .i64 k ∧ CommAt wr w1.heap.size (l.take k) ∧ Below w1.heap.size w1 wr) (fun v19 _ => l.length - (intOf v19).toNat)
  case atStart => exact ⟨0, Nat.zero_le _, rfl, comm_start l w1, (Below.refl _ _).alloc (Nat.le_refl _) _⟩
  case round =>
    obtain ⟨k, hk, rfl, hcm, hbel⟩ := hrel
    have hs1 := hb1.size
    have hsz : w1.heap.size < wr.heap.size := hcm.lt
    by_cases hlt : k < l.length
    · obtain rfl := ha (by omega)
      obtain ⟨c0, c1, c2⟩ := hops k hlt
      have hb0 : b < w.heap.size := by
        rcases hbB with h | h
        · exact h
        · subst h; simp at hlt
      rw [← hb1.cell (p := ⟨b, off + k * 3, none⟩) hb0, ← hbel.cell (p := ⟨b, off + k * 3, none⟩) (by simp; omega)] at c0
      rw [← hb1.cell (p := ⟨b, off + k * 3 + 1, none⟩) hb0, ← hbel.cell (p := ⟨b, off + k * 3 + 1, none⟩) (by simp; omega)] at c1
      rw [← hb1.cell (p := ⟨b, off + k * 3 + 2, none⟩) hb0, ← hbel.cell (p := ⟨b, off + k * 3 + 2, none⟩) (by simp; omega)] at c2
      obtain ⟨⟨t, a, i⟩, ho⟩ : ∃ o : Op3, l.getD k (0, 0, 0) = o := ⟨_, rfl⟩
      rw [ho] at c0 c1 c2
      have hto := isOp_tx (HV.out (t, a, i) (by rw [← ho]; simp [List.getD, List.getElem?_eq_getElem hlt]))
      have HT : Hid (l.take (k + 1) = l.take k ++ [(t, a, i)]) := by
        show l.take (k + 1) = l.take k ++ [(t, a, i)]
        rw [List.take_succ_eq_append_getElem hlt, ← ho]; simp [List.getD, List.getElem?_eq_getElem hlt]
      obtain ⟨ht1, ht6⟩ := hto
      clear ho hops ha hbB hn hI hc
      simp only at c0 c1 c2 ht1 ht6
      by_cases h3 : a = 3
      · subst h3
        obtain ⟨hc1, hc2⟩ := hcm t.toNat (by omega)
        go_wp2
        go_roundw
        case rel => exact ⟨k + 1, by omega, by go_num, by rw [HT.out]; exact hcm.step ht1 ht6 _, (hbel.setCell (by simp) _).alloc (by simp; omega) _⟩
        case measure => simp [intOf]; omega
      · have h3' : (a == 3) = false := by simpa using h3
        have H3 : Hid (a ≠ 3) := h3
        clear h3
        go_wp2
        go_roundw
        case rel => exact ⟨k + 1, by omega, by go_num, by rw [HT.out]; exact hcm.same H3.out _, hbel.alloc (by omega) _⟩
        case measure => simp [intOf]; omega
    · have hcm' : CommAt wr w1.heap.size l := by rw [List.take_of_length_le (by omega)] at hcm; exact hcm
      have hbw : Below w.heap.size w wr := hb1.trans (hbel.mono hs1)
      go_wp2_with (go_at_call 19; refine (keep_done l ad b off cap w1.heap.size (commIn l) (fun o ho => isOp_tx (HV.out o ho)) _ (by omega) ha (by rcases hbB with h | h; exact .inl (by omega); exact .inr h) (hops.below hbw hbB) (fun j hj => (hcm' j hj).1) hsz).mono ?_; rintro e w2 ⟨v2, rfl, hI2, hb2⟩)
      go_ret2
      exact ⟨_, rfl, hI2, hbw.trans (hb2.mono hbw.size)⟩

set_option maxHeartbeats 2000000 in
theorem of_bad (l : List Op3) (v : Value) (tx : Int) (w : World) (h : IsOps w v l) (hc : (chk l).2 ≠ 0) :
    Calls Tryz.prog 25 #[v, .int .i64 tx] w fun e w' => e = .returned (.tuple #[.slice none 0 0, .iface 61 (.int .i64 (chk l).2)]) ∧ Below w.heap.size w w' := by
  go_enter Tryz.func25, Tryz.ntmps25
  go_wp2_with (go_at_call 18; refine (check_bad l v _ h hc).mono ?_; rintro e w1 ⟨rfl, hb1⟩)
  go_ret2
  exact ⟨rfl, hb1⟩
set_option maxHeartbeats 2000000 in
theorem of_ok (l : List Op3) (v : Value) (tx : Int) (w : World) (h : IsOps w v l) (hc : (chk l).2 = 0) (h1 : 1 ≤ tx) (h6 : tx ≤ 6) :
    Calls Tryz.prog 25 #[v, .int .i64 tx] w fun e w' => ∃ v', e = .returned (.tuple #[v', .nilIface]) ∧ IsOps w' v' (ofL l tx) ∧ Below w.heap.size w w' := by
  have hl40 := chk_len hc
  have hI := h
  obtain ⟨ad, b, off, cap, rfl, ha, hn, hbB, hops⟩ := h
  go_enter Tryz.func25, Tryz.ntmps25
  go_wp2_with (first | (go_at_call 18; refine (check_ok l _ _ hI hc).mono ?_; rintro e w1 ⟨rfl, hb1⟩; have hs1 := hb1.size) | (go_at_call 19; refine (keep_of l ad b off cap w1.heap.size tx _ (by omega) ha (by rcases hbB with h | h; exact .inl (by simp; omega); exact .inr h) ((hops.below hb1 hbB).below ((Below.refl w1.heap.size w1).alloc (Nat.le_refl _) _) (by rcases hbB with h | h; exact .inl (by omega); exact .inr h)) (by simp) (by simp)).mono ?_; rintro e w2 ⟨v2, rfl, hI2, hb2⟩) | go_in)
  go_ret2
  exact ⟨_, rfl, hI2, (hb1.alloc (by omega) _).trans (hb2.mono (by simp; omega))⟩
end Go.Proofs.YtccjognnehoodahGreat

namespace Go.Proofs.YtccjognnehoodahGreat
open Go.RowKit

/-- A slice value that holds a list of numbers. -/
def IsInts (w : World) (v : Value) (l : List Int) : Prop :=
  ∃ (ad : Option Addr) (b off cap : Nat), v = .slice ad l.length cap ∧ (0 < l.length → ad = some ⟨b, off, none⟩) ∧ (ad = none → l.length = 0 ∧ cap = 0) ∧ (b < w.heap.size ∨ l = []) ∧ ∀ i, i < l.length → w.cell? ⟨b, off + i, none⟩ = some (.int .i64 (l.getD i 0))
theorem IsInts.below {w w1 : World} {B : Nat} {v : Value} {l : List Int} (h : IsInts w v l) (hb : Below B w w1) (hB : w.heap.size ≤ B) : IsInts w1 v l := by
  obtain ⟨ad, b, off, cap, hv, ha, hn, hbB, hc⟩ := h
  have hs := hb.size
  refine ⟨ad, b, off, cap, hv, ha, hn, ?_, fun i hi => ?_⟩
  · rcases hbB with h | h
    · exact .inl (by omega)
    · exact .inr h
  · rcases hbB with h | h
    · rw [hb.cell (p := ⟨b, off + i, none⟩) (by simp; omega)]; exact hc i hi
    · subst h; simp at hi
theorem isInts_nil (w : World) : IsInts w (.slice none 0 0) [] := ⟨none, 0, 0, 0, rfl, fun h => absurd h (by simp), fun _ => ⟨rfl, rfl⟩, .inr rfl, fun i hi => by simp at hi⟩
theorem isInts_own {w : World} {base e n : Nat} {v : Value} {l : List Int} (h : w.ownsRow base e 1 v n (l.map (Value.int .i64))) (hl : l.length = n) : IsInts w v l := by
  have h' := h
  obtain ⟨_, ⟨hv, hd⟩ | ⟨g, cap, cur, hv, hb, hg, hn, hm, hsz, htk⟩⟩ := h'
  · have : l = [] := List.length_eq_zero_iff.1 (by omega)
    subst this
    rw [hv]
    exact isInts_nil w
  · refine ⟨some ⟨g, 0, none⟩, g, 0, cap, by rw [hl]; exact hv, fun _ => rfl, fun h => (by simp at h), .inl (h.lt g (by rw [hv]; rfl)).2, fun i hi => ?_⟩
    have := h.cells (g := g) (by rw [hv]; rfl) i (.int .i64 (l.getD i 0)) (by simp [List.getD, hi])
    rw [Addr.add_lit] at this
    exact this
/-- What is owned stays owned where nothing that was there turns. -/
theorem own_below {w w1 : World} {base e size n B : Nat} {v : Value} {xs : List Value} (h : w.ownsRow base e size v n xs) (hb : Below B w w1) (hB : w.heap.size ≤ B) : w1.ownsRow base e size v n xs := by
  have h' := h
  obtain ⟨hl, hd | ⟨g, cap, cur, hv, hbg, hg, hn, hm, hsz, htk⟩⟩ := h
  · exact ⟨hl, .inl hd⟩
  · refine ⟨hl, .inr ⟨g, cap, cur, hv, hbg, ?_, hn, hm, hsz, htk⟩⟩
    have hlt : g < w.heap.size := (h'.lt g (by rw [hv]; rfl)).2
    rw [hb.block g (by omega)]; exact hg
theorem infoInt : (Tryz.prog.info? 3).map (fun i => (i.zero, i.size, i.bytes)) = some (some (.int .i64 0), 1, 8) := by kernel_rfl
end Go.Proofs.YtccjognnehoodahGreat

namespace Go.Proofs.YtccjognnehoodahGreat
open Go.RowKit

def hasB (l : List Op3) (t : Int) : Bool := l.any fun o => o.1 == t
def dealsTo (l : List Op3) : Nat → List Int
  | 0 => []
  | n + 1 => dealsTo l n ++ (if hasB l ((n : Int) + 1) then [(n : Int) + 1] else [])
def dealsL (l : List Op3) : List Int := dealsTo l 6
theorem dealsTo_len (l : List Op3) (n : Nat) : (dealsTo l n).length ≤ n := by
  induction n with
  | zero => simp [dealsTo]
  | succ n ih => simp only [dealsTo]; split <;> simp <;> omega

theorem hasB_drop {l : List Op3} {k : Nat} {o : Op3} (hd : l.drop k = o :: l.drop (k + 1)) (t : Int) : hasB (l.drop k) t = (o.1 == t || hasB (l.drop (k + 1)) t) := by
  rw [hd]; rfl
set_option maxHeartbeats 2000000 in
theorem index_any (l : List Op3) (ad : Option Addr) (b off cap : Nat) (c : Nat) (tx : Int) (w : World) (hlen : l.length ≤ 140737488351) (ha : 0 < l.length → ad = some ⟨b, off, none⟩) (hbB : b < w.heap.size ∨ l = []) (hops : OpsAt w b off l) (hc : w.cell? ⟨c, 0, none⟩ = some (.int .i64 tx)) (hcl : c < w.heap.size) :
    Calls Tryz.prog 51 #[.slice ad l.length cap, .func (.func 52) #[] #[.pointer (some ⟨c, 0, none⟩)]] w fun e w' => ∃ n : Int, e = .returned (.int .i64 n) ∧ decide (0 ≤ n) = hasB l tx ∧ Below w.heap.size w w' := by
  go_enter Tryz.func51, Tryz.ntmps51
  go_wp2
  go_loopw [8] (fun v8 wr => ∃ k : Nat, k ≤ l.length ∧ v8 = .int .i64 k ∧ hasB (l.drop k) tx = hasB l tx ∧ Below w.heap.size w wr) (fun v8 _ => l.length - (intOf v8).toNat)
  case atStart => exact ⟨0, Nat.zero_le _, rfl, rfl, Below.refl _ _⟩
  case round =>
    obtain ⟨k, hk, rfl, hck, hbel⟩ := hrel
    have HK : Hid (hasB (l.drop k) tx = hasB l tx) := hck
    clear hck
    by_cases hlt : k < l.length
    · obtain rfl := ha (by omega)
      obtain ⟨c0, c1, c2⟩ := hops k hlt
      have hb1 : b < w.heap.size := by
        rcases hbB with h | h
        · exact h
        · subst h; simp at hlt
      rw [← hbel.cell (p := ⟨b, off + k * 3, none⟩) hb1] at c0
      rw [← hbel.cell (p := ⟨b, off + k * 3 + 1, none⟩) hb1] at c1
      rw [← hbel.cell (p := ⟨b, off + k * 3 + 2, none⟩) hb1] at c2
      rw [← hbel.cell (p := ⟨c, 0, none⟩) hcl] at hc
      obtain ⟨⟨t, a, i⟩, ho⟩ : ∃ o : Op3, l.getD k (0, 0, 0) = o := ⟨_, rfl⟩
      rw [ho] at c0 c1 c2
      have hsz := hbel.size
      have HD : Hid (l.drop k = (t, a, i) :: l.drop (k + 1)) := by
        show l.drop k = (t, a, i) :: l.drop (k + 1)
        rw [← ho]; simp [List.getD, List.getElem?_eq_getElem hlt]
      clear ho hops ha hbB
      simp only at c0 c1 c2
      cases hq : (t == tx) with
      | true =>
        go_wp2_with (go_at_call 52; refine (isOf1_any t a i tx c _ hc (by omega)).mono ?_; rintro e w' ⟨rfl, rfl⟩)
        go_ret
        exact ⟨k, rfl, by rw [← HK.out, hasB_drop HD.out]; simp [hq], hbel.alloc (by omega) _⟩
      | false =>
        go_wp2_with (go_at_call 52; refine (isOf1_any t a i tx c _ hc (by omega)).mono ?_; rintro e w' ⟨rfl, rfl⟩)
        go_roundw
        case rel => exact ⟨k + 1, by omega, by go_num, by rw [← HK.out, hasB_drop HD.out]; simp [hq], hbel.alloc (by omega) _⟩
        case measure => simp [intOf]; omega
    · go_wp2
      go_ret
      exact ⟨-1, rfl, by rw [← HK.out, List.drop_of_length_le (by omega)]; rfl, hbel⟩
set_option maxHeartbeats 2000000 in
theorem contains_any (l : List Op3) (v : Value) (c : Nat) (tx : Int) (w : World) (hI : IsOps w v l) (hlen : l.length ≤ 140737488351) (hc : w.cell? ⟨c, 0, none⟩ = some (.int .i64 tx)) (hcl : c < w.heap.size) :
    Calls Tryz.prog 21 #[v, .func (.func 52) #[] #[.pointer (some ⟨c, 0, none⟩)]] w fun e w' => e = .returned (.bool (hasB l tx)) ∧ Below w.heap.size w w' := by
  obtain ⟨ad, b, off, cap, rfl, ha, hn, hbB, hops⟩ := hI
  go_enter Tryz.func21, Tryz.ntmps21
  go_wp2_with (go_at_call 51; refine (index_any l ad b off cap c tx _ hlen ha hbB hops hc hcl).mono ?_; rintro e w1 ⟨n, rfl, hn1, hb1⟩)
  go_ret
  exact ⟨rfl, hb1⟩

set_option maxHeartbeats 2000000 in
theorem deals_bad (l : List Op3) (v : Value) (w : World) (h : IsOps w v l) (hc : (chk l).2 ≠ 0) :
    Calls Tryz.prog 6 #[v] w fun e w' => e = .returned (.tuple #[.slice none 0 0, .iface 61 (.int .i64 (chk l).2)]) ∧ Below w.heap.size w w' := by
  go_enter Tryz.func6, Tryz.ntmps6
  go_wp2_with (go_at_call 18; refine (check_bad l v _ h hc).mono ?_; rintro e w1 ⟨rfl, hb1⟩)
  go_ret2
  exact ⟨rfl, hb1⟩

set_option maxHeartbeats 4000000 in
theorem deals_own (l : List Op3) (v : Value) (w : World) (h : IsOps w v l) (hc : (chk l).2 = 0) :
    Calls Tryz.prog 6 #[v] w fun e w' => ∃ v', e = .returned (.tuple #[v', .nilIface]) ∧ w'.ownsRow w.heap.size 3 1 v' (dealsL l).length ((dealsL l).map (Value.int .i64)) ∧ Below w.heap.size w w' := by
  have hl40 := chk_len hc
  go_enter Tryz.func6, Tryz.ntmps6
  go_wp2_with (go_at_call 18; refine (check_ok l _ _ h hc).mono ?_; rintro e w1 ⟨rfl, hb1⟩)
  clear hc
  have hs1 := hb1.size
  go_loopw [6, 7] (fun v6 v7 wr => ∃ n : Nat, n ≤ 6 ∧ v7 = .int .i64 (n + 1) ∧ wr.ownsRow w.heap.size 3 1 v6 (dealsTo l n).length ((dealsTo l n).map (Value.int .i64)) ∧ Below w.heap.size w wr) (fun _ v7 _ => 7 - (intOf v7).toNat)
  case atStart => exact ⟨0, by omega, rfl, World.ownsRow_nil _ _ _ _, hb1⟩
  case round =>
    obtain ⟨n, hn6, rfl, hown, hbel⟩ := hrel
    have hsz := hbel.size
    have hdl := dealsTo_len l n
    by_cases hlt : n < 6
    · have hI := (h.below hbel (Nat.le_refl _)).below ((Below.refl wr.heap.size wr).alloc (Nat.le_refl _) (.cells #[.int .i64 ((n : Int) + 1)] 3)) (Nat.le_refl _)
      cases hq : hasB l ((n : Int) + 1) with
      | false =>
        have HQ : Hid (dealsTo l (n + 1) = dealsTo l n) := by show dealsTo l (n + 1) = dealsTo l n; simp [dealsTo, hq]
        go_wp2_with (first | (go_at_call 21; refine (contains_any l v wr.heap.size ((n : Int) + 1) _ hI (by omega) (by simp) (by simp)).mono ?_; rintro e w2 ⟨rfl, hb2⟩) | go_in)
        have hB2 := (hbel.alloc hsz (.cells #[.int .i64 ((n : Int) + 1)] 3)).trans (hb2.mono (by simp; omega))
        go_roundw
        case rel => exact ⟨n + 1, by omega, by go_num, by rw [HQ.out]; exact own_below (hown.alloc _) hb2 (Nat.le_refl _), hB2⟩
        case measure => simp [intOf]; omega
      | true =>
        have HQ : Hid (dealsTo l (n + 1) = dealsTo l n ++ [(n : Int) + 1]) := by show dealsTo l (n + 1) = dealsTo l n ++ [(n : Int) + 1]; simp [dealsTo, hq]
        obtain ⟨i0, hi, hz0, hs0, hy0⟩ := info_parts infoInt
        have HI : Hid (Tryz.prog.info? 3 = some i0 ∧ i0.zero = some (.int .i64 0) ∧ i0.size = 1 ∧ i0.bytes = 8) := ⟨hi, hz0, hs0, hy0⟩
        clear hi hz0 hs0 hy0
        go_wp2_with (first | (go_at_call 21; refine (contains_any l v wr.heap.size ((n : Int) + 1) _ hI (by omega) (by simp) (by simp)).mono ?_; rintro e w2 ⟨rfl, hb2⟩; have hown2 := own_below (hown.alloc _) hb2 (Nat.le_refl _); have hs2 := hb2.size; simp at hs2) | (at_builtin; refine wpList_append_own _ rfl (.tmp 24) (.tmp 26) 28 rfl w.heap.size 3 i0 (.int .i64 0) 1 8 Tryz.underlying28 HI.out.1 HI.out.2.1 HI.out.2.2.1 HI.out.2.2.2 rfl (by decide) u6 (dealsTo l n).length ((dealsTo l n).map (Value.int .i64)) rfl (hown2.alloc _) ⟨w2.heap.size, 0, none⟩ 1 1 [.int .i64 ((n : Int) + 1)] rfl rfl (cell_one_new _ _ _) (by simp [Value.oneCell']) (by unfold maxLen; omega) (by omega) (by simp; omega) ?_; intro v' w3 hown3 hgr3 hnil3) | go_in)
        have hB2 := (hbel.alloc hsz (.cells #[.int .i64 ((n : Int) + 1)] 3)).trans (hb2.mono (by simp; omega))
        have hB3 := (hB2.alloc (by omega) _).grown hgr3 (by simp; omega) (fun m hm => (hown.lt m hm).1)
        go_roundw
        case rel => exact ⟨n + 1, by omega, by go_num, by rw [HQ.out]; simpa using hown3, hB3⟩
        case measure => simp [intOf]; omega
    · obtain rfl : n = 6 := by omega
      go_wp2
      go_ret2
      exact ⟨_, rfl, hown, hbel⟩
theorem deals_ok (l : List Op3) (v : Value) (w : World) (h : IsOps w v l) (hc : (chk l).2 = 0) :
    Calls Tryz.prog 6 #[v] w fun e w' => ∃ v', e = .returned (.tuple #[v', .nilIface]) ∧ IsInts w' v' (dealsL l) ∧ Below w.heap.size w w' :=
  (deals_own l v w h hc).mono fun _ _ ⟨v', he, ho, hb⟩ => ⟨v', he, isInts_own ho rfl, hb⟩
end Go.Proofs.YtccjognnehoodahGreat

namespace Go.Proofs.YtccjognnehoodahGreat

/-- No op stands behind an end of its deal. -/
def Calm (l : List Op3) : Prop := l.Pairwise fun a b => ¬ (a.1 = b.1 ∧ endsB a.2.1 = true)
theorem endedIn_false {l : List Op3} {t : Int} : endedIn l t = false ↔ ∀ o ∈ l, ¬ (o.1 = t ∧ endsB o.2.1 = true) := by
  simp [endedIn]
theorem chkFrom_iff (l : List Op3) : ∀ pre, (chkFrom pre l).2 = 0 ↔ ((∀ o ∈ l, isOpB o = true) ∧ (∀ o ∈ l, endedIn pre o.1 = false) ∧ Calm l) := by
  induction l with
  | nil => intro pre; simp [chkFrom, Calm]
  | cons a r ih =>
    intro pre
    cases h1 : isOpB a with
    | false =>
      rw [chkFrom_bad1 pre r h1]
      simp [h1]
    | true =>
      cases h2 : endedIn pre a.1 with
      | true =>
        rw [chkFrom_bad2 r h1 h2]
        simp [h2]
      | false =>
        rw [chkFrom_go r h1 h2, ih]
        constructor
        · rintro ⟨k1, k2, k3⟩
          refine ⟨fun o ho => ?_, fun o ho => ?_, ?_⟩
          · rcases List.mem_cons.1 ho with rfl | ho
            · exact h1
            · exact k1 o ho
          · rcases List.mem_cons.1 ho with rfl | ho
            · exact h2
            · have := k2 o ho
              rw [endedIn_snoc] at this
              exact (Bool.or_eq_false_iff.1 this).1
          · refine List.pairwise_cons.2 ⟨fun b hb => ?_, k3⟩
            have := k2 b hb
            rw [endedIn_snoc] at this
            have h3 := (Bool.or_eq_false_iff.1 this).2
            rintro ⟨e1, e2⟩
            simp [e1, e2] at h3
        · rintro ⟨k1, k2, k3⟩
          obtain ⟨k4, k5⟩ := List.pairwise_cons.1 k3
          refine ⟨fun o ho => k1 o (List.mem_cons_of_mem _ ho), fun o ho => ?_, k5⟩
          rw [endedIn_snoc, k2 o (List.mem_cons_of_mem _ ho)]
          have := k4 o ho
          by_cases e1 : a.1 = o.1
          · cases e2 : endsB a.2.1 with
            | true => exact absurd ⟨e1, e2⟩ this
            | false => simp
          · simp [e1]
theorem chk_iff (l : List Op3) : (chk l).2 = 0 ↔ (l.length ≤ 40 ∧ (∀ o ∈ l, isOpB o = true) ∧ Calm l) := by
  constructor
  · intro h
    have hl := chk_len h
    rw [chk_short l hl, chkFrom_iff] at h
    exact ⟨hl, h.1, h.2.2⟩
  · rintro ⟨hl, h1, h2⟩
    rw [chk_short l hl, chkFrom_iff]
    exact ⟨h1, fun o _ => by simp [endedIn], h2⟩
theorem chk_sub {l m : List Op3} (h : (chk l).2 = 0) (hs : m.Sublist l) : (chk m).2 = 0 := by
  rw [chk_iff] at h ⊢
  exact ⟨Nat.le_trans hs.length_le h.1, fun o ho => h.2.1 o (hs.subset ho), h.2.2.sublist hs⟩
theorem chk_done {l : List Op3} (h : (chk l).2 = 0) : (chk (doneL l)).2 = 0 := chk_sub h (List.filter_sublist ..)
theorem chk_take {l : List Op3} (h : (chk l).2 = 0) (k : Nat) : (chk (l.take k)).2 = 0 := chk_sub h (List.take_sublist ..)

theorem commIn_done (l : List Op3) (t : Nat) : commIn (doneL l) t = commIn l t := by
  rw [Bool.eq_iff_iff]
  simp only [commIn, List.any_eq_true, doneL, List.mem_filter, Bool.and_eq_true, beq_iff_eq]
  constructor
  · rintro ⟨o, ⟨h1, _⟩, h2⟩
    exact ⟨o, h1, h2⟩
  · rintro ⟨o, h1, h2⟩
    refine ⟨o, ⟨h1, o, h1, ?_, h2.2⟩, h2⟩
    rw [h2.1]; simp
theorem done_done (l : List Op3) : doneL (doneL l) = doneL l := by
  have e : doneL (doneL l) = (doneL l).filter fun o => commIn l o.1.toNat := by
    unfold doneL
    apply List.filter_congr
    intro o _
    exact commIn_done l o.1.toNat
  rw [e]
  unfold doneL
  rw [List.filter_filter]
  simp

/-! ### Deals -/
theorem dealsTo_mem (l : List Op3) (n : Nat) : ∀ t ∈ dealsTo l n, 1 ≤ t ∧ t ≤ n ∧ hasB l t = true := by
  induction n with
  | zero => intro t ht; simp [dealsTo] at ht
  | succ n ih =>
    intro t ht
    simp only [dealsTo, List.mem_append] at ht
    rcases ht with ht | ht
    · have := ih t ht; exact ⟨this.1, by omega, this.2.2⟩
    · cases hb : hasB l ((n : Int) + 1) with
      | true => rw [hb, if_pos rfl] at ht; simp at ht; subst ht; exact ⟨by omega, by omega, hb⟩
      | false => rw [hb] at ht; simp at ht
theorem dealsTo_rise (l : List Op3) (n : Nat) : (dealsTo l n).Pairwise (· < ·) := by
  induction n with
  | zero => simp [dealsTo]
  | succ n ih =>
    simp only [dealsTo]
    refine List.pairwise_append.2 ⟨ih, ?_, fun a ha b hb => ?_⟩
    · split <;> simp
    · have h1 := (dealsTo_mem l n a ha).2.1
      split at hb
      · simp at hb; omega
      · simp at hb
def sumL (l : List Op3) (ts : List Int) : Nat := (ts.map fun t => (ofL l t).length).sum
theorem sumL_append (l : List Op3) (a b : List Int) : sumL l (a ++ b) = sumL l a + sumL l b := by simp [sumL]
theorem of_none {l : List Op3} {t : Int} (h : hasB l t = false) : (ofL l t).length = 0 := by
  simp [hasB] at h
  simp only [ofL]
  rw [List.length_eq_zero_iff, List.filter_eq_nil_iff]
  intro o ho
  have := h o.1 o.2.1 o.2.2 ho
  simpa using this
theorem of_some {l : List Op3} {t : Int} (h : hasB l t = true) : 0 < (ofL l t).length := by
  simp only [hasB, List.any_eq_true] at h
  obtain ⟨o, ho, he⟩ := h
  exact List.length_pos_of_mem (List.mem_filter.2 ⟨ho, he⟩)
theorem sum_to (l : List Op3) (h1 : ∀ o ∈ l, 1 ≤ o.1) (n : Nat) : sumL l (dealsTo l n) = (l.filter fun o => decide (o.1 ≤ (n : Int))).length := by
  induction n with
  | zero =>
    simp only [dealsTo, sumL, List.map_nil, List.sum_nil]
    symm
    rw [List.length_eq_zero_iff, List.filter_eq_nil_iff]
    intro o ho
    have := h1 o ho
    simp; omega
  | succ n ih =>
    have split : (l.filter fun o => decide (o.1 ≤ ((n + 1 : Nat) : Int))).length = (l.filter fun o => decide (o.1 ≤ (n : Int))).length + (ofL l ((n : Int) + 1)).length := by
      clear ih h1
      induction l with
      | nil => rfl
      | cons o r ih =>
        simp only [ofL] at ih ⊢
        by_cases e1 : o.1 ≤ (n : Int)
        · have e2 : o.1 ≤ ((n + 1 : Nat) : Int) := by omega
          have e3 : (o.1 == (n : Int) + 1) = false := by simp; omega
          simp only [List.filter_cons, e1, e2, e3, decide_true, if_true, List.length_cons]
          rw [ih]; simp; omega
        · by_cases e4 : o.1 = (n : Int) + 1
          · have e2 : o.1 ≤ ((n + 1 : Nat) : Int) := by omega
            have e3 : (o.1 == (n : Int) + 1) = true := by simp [e4]
            simp only [List.filter_cons, e1, e2, e3, decide_true, decide_false, if_true, List.length_cons]
            rw [ih]; simp; omega
          · have e2 : ¬ o.1 ≤ ((n + 1 : Nat) : Int) := by omega
            have e3 : (o.1 == (n : Int) + 1) = false := by simp [e4]
            simp only [List.filter_cons, e1, e2, e3, decide_false]
            simpa using ih
    rw [split]
    simp only [dealsTo]
    rw [sumL_append, ih]
    cases hb : hasB l ((n : Int) + 1) with
    | true => simp [sumL]
    | false => rw [of_none hb]; simp [sumL]
theorem sum_all {l : List Op3} (h : (chk l).2 = 0) : sumL l (dealsL l) = l.length := by
  have ho := chk_ops h
  unfold dealsL
  rw [sum_to l (fun o hm => (isOp_tx (ho o hm)).1) 6, List.filter_eq_self.2]
  intro o hm
  have := (isOp_tx (ho o hm)).2
  simp; omega
theorem sum_take_le {l : List Op3} (h : (chk l).2 = 0) (k : Nat) : sumL l ((dealsL l).take k) ≤ 40 := by
  have h1 := sum_all h
  have h2 := chk_len h
  have h3 : sumL l (dealsL l) = sumL l ((dealsL l).take k) + sumL l ((dealsL l).drop k) := by
    rw [← sumL_append, List.take_append_drop]
  omega
end Go.Proofs.YtccjognnehoodahGreat
