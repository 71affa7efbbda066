/-
  PROVED HERE: history.Done gives the ops of the deals that commit, in order, of a list that is right; of any other Check's error. history.Of gives a deal's ops. Old memory stays as it was.
  Conditions: none.
  (Of these, what the claim wants: the rest was left out.)
  PROVED HERE: how a list of numbers lies in memory, as a slice value that came in or that the program made itself; and what is owned stays owned where nothing that was there turns.
  Conditions: none.
-/
import Derived.Test.YtmjjiehnjghndaaGreatMgad
import Derived.Test.YtmjjiehnjghndaaGreatProg
import Derived.WalkKit
import Derived.WalkSpells
import Derived.Handy
namespace Go.Proofs.YtmjjiehnjghndaaGreat
open Go.RowKit

/-- Does a deal commit among these ops? -/
def commIn (l : List Op3) (t : Nat) : Bool := l.any fun o => o.1 == (t : Int) && o.2.1 == 3
def doneL (l : List Op3) : List Op3 := l.filter fun o => commIn l o.1.toNat
def ofL (l : List Op3) (tx : Int) : List Op3 := l.filter fun o => o.1 == tx
theorem commIn_snoc (l : List Op3) (o : Op3) (t : Nat) : commIn (l ++ [o]) t = (commIn l t || (o.1 == (t : Int) && o.2.1 == 3)) := by simp [commIn]
theorem chk_len {l : List Op3} (h : (chk l).2 = 0) : l.length ≤ 40 := by
  unfold chk at h
  split at h
  · simp at h
  · omega
theorem chk_ops {l : List Op3} (h : (chk l).2 = 0) : ∀ o ∈ l, isOpB o = true := by
  rw [chk_short l (chk_len h)] at h
  exact chkFrom_ops l [] h

/-- The array of those that commit. -/
def CommAt (w : World) (B : Nat) (l : List Op3) : Prop := ∀ j, j < 7 → w.cell? ⟨B, j, none⟩ = some (.bool (commIn l j)) ∧ w.frozen? ⟨B, j, none⟩ = false
theorem CommAt.lt {w : World} {B : Nat} {l : List Op3} (h : CommAt w B l) : B < w.heap.size := World.block_lt_of_cell? w _ (h 0 (by omega)).1
theorem comm_start (l : List Op3) (w : World) : CommAt (w.alloc (.cells #[.bool false, .bool false, .bool false, .bool false, .bool false, .bool false, .bool false] 74)) w.heap.size (List.take 0 l) := by
  intro j hj
  match j, hj with
  | 0, _ => exact ⟨by simp [commIn], by simp⟩
  | 1, _ => exact ⟨by simp [commIn], by simp⟩
  | 2, _ => exact ⟨by simp [commIn], by simp⟩
  | 3, _ => exact ⟨by simp [commIn], by simp⟩
  | 4, _ => exact ⟨by simp [commIn], by simp⟩
  | 5, _ => exact ⟨by simp [commIn], by simp⟩
  | 6, _ => exact ⟨by simp [commIn], by simp⟩
theorem CommAt.same {w : World} {B : Nat} {l : List Op3} {t a i : Int} (h : CommAt w B l) (ha : a ≠ 3) (o1 : Obj) : CommAt (w.alloc o1) B (l ++ [(t, a, i)]) := by
  have hlt := h.lt
  intro j hj
  obtain ⟨hc, hf⟩ := h j hj
  constructor
  · rw [World.cell?_alloc_lt _ _ ⟨B, j, none⟩ hlt, commIn_snoc, hc]
    simp [ha]
  · rw [World.frozen?_alloc_old _ _ ⟨B, j, none⟩ (by simp; omega)]; exact hf
theorem CommAt.step {w : World} {B : Nat} {l : List Op3} {t i : Int} (h : CommAt w B l) (h1 : 1 ≤ t) (h6 : t ≤ 6) (o1 : Obj) : CommAt ((w.setCell ⟨B, t.toNat, none⟩ (.bool true)).alloc o1) B (l ++ [(t, 3, i)]) := by
  have hlt := h.lt
  intro j hj
  obtain ⟨hc, hf⟩ := h j hj
  obtain ⟨hct, _⟩ := h t.toNat (by omega)
  constructor
  · rw [World.cell?_alloc_lt _ _ ⟨B, j, none⟩ (by simp; omega), commIn_snoc]
    by_cases hjt : j = t.toNat
    · subst hjt
      rw [World.cell?_setCell_same _ _ _ hct, show ((t.toNat : Nat) : Int) = t by omega]; simp
    · rw [World.cell?_setCell_other _ _ _ _ (by intro he; injection he with _ he2 _; exact hjt he2.symm), hc]
      have : (t == (j : Int)) = false := by simp; omega
      simp [this]
  · rw [World.frozen?_alloc_old _ _ ⟨B, j, none⟩ (by simp; omega)]
    simpa using hf

set_option maxHeartbeats 4000000 in
theorem done_ok (l : List Op3) (v : Value) (w : World) (h : IsOps w v l) (hc : (chk l).2 = 0) :
    Calls Tryz.prog 39 #[v] w fun e w' => ∃ v', e = .returned (.tuple #[v', .nilIface]) ∧ IsOps w' v' (doneL l) ∧ Below w.heap.size w w' := by
  have hl40 := chk_len hc
  have hopsv := chk_ops hc
  have HV : Hid (∀ o ∈ l, isOpB o = true) := hopsv
  clear hopsv
  have hI := h
  obtain ⟨ad, b, off, cap, rfl, ha, hn, hbB, hops⟩ := h
  go_enter Tryz.func39, Tryz.ntmps39
  go_wp2_with (go_at_call 16; refine (check_ok l _ _ hI hc).mono ?_; rintro e w1 ⟨rfl, hb1⟩)
  go_loopw [19] (fun v19 wr => ∃ k : Nat, k ≤ l.length ∧ v19 = .int .i64 k ∧ CommAt wr w1.heap.size (l.take k) ∧ Below w1.heap.size w1 wr) (fun v19 _ => l.length - (intOf v19).toNat)
  case atStart => exact ⟨0, Nat.zero_le _, rfl, comm_start l w1, (Below.refl _ _).alloc (Nat.le_refl _) _⟩
  case round =>
    obtain ⟨k, hk, rfl, hcm, hbel⟩ := hrel
    have hs1 := hb1.size
    have hsz : w1.heap.size < wr.heap.size := hcm.lt
    by_cases hlt : k < l.length
    · obtain rfl := ha (by omega)
      obtain ⟨c0, c1, c2⟩ := hops k hlt
      have hb0 : b < w.heap.size := by
        rcases hbB with h | h
        · exact h
        · subst h; simp at hlt
      rw [← hb1.cell (p := ⟨b, off + k * 3, none⟩) hb0, ← hbel.cell (p := ⟨b, off + k * 3, none⟩) (by simp; omega)] at c0
      rw [← hb1.cell (p := ⟨b, off + k * 3 + 1, none⟩) hb0, ← hbel.cell (p := ⟨b, off + k * 3 + 1, none⟩) (by simp; omega)] at c1
      rw [← hb1.cell (p := ⟨b, off + k * 3 + 2, none⟩) hb0, ← hbel.cell (p := ⟨b, off + k * 3 + 2, none⟩) (by simp; omega)] at c2
      obtain ⟨⟨t, a, i⟩, ho⟩ : ∃ o : Op3, l.getD k (0, 0, 0) = o := ⟨_, rfl⟩
      rw [ho] at c0 c1 c2
      have hto := isOp_tx (HV.out (t, a, i) (by rw [← ho]; simp [List.getD, List.getElem?_eq_getElem hlt]))
      have HT : Hid (l.take (k + 1) = l.take k ++ [(t, a, i)]) := by
        show l.take (k + 1) = l.take k ++ [(t, a, i)]
        rw [List.take_succ_eq_append_getElem hlt, ← ho]; simp [List.getD, List.getElem?_eq_getElem hlt]
      obtain ⟨ht1, ht6⟩ := hto
      clear ho hops ha hbB hn hI hc
      simp only at c0 c1 c2 ht1 ht6
      by_cases h3 : a = 3
      · subst h3
        obtain ⟨hc1, hc2⟩ := hcm t.toNat (by omega)
        go_wp2
        go_roundw
        case rel => exact ⟨k + 1, by omega, by go_num, by rw [HT.out]; exact hcm.step ht1 ht6 _, (hbel.setCell (by simp) _).alloc (by simp; omega) _⟩
        case measure => simp [intOf]; omega
      · have h3' : (a == 3) = false := by simpa using h3
        have H3 : Hid (a ≠ 3) := h3
        clear h3
        go_wp2
        go_roundw
        case rel => exact ⟨k + 1, by omega, by go_num, by rw [HT.out]; exact hcm.same H3.out _, hbel.alloc (by omega) _⟩
        case measure => simp [intOf]; omega
    · have hcm' : CommAt wr w1.heap.size l := by rw [List.take_of_length_le (by omega)] at hcm; exact hcm
      have hbw : Below w.heap.size w wr := hb1.trans (hbel.mono hs1)
      go_wp2_with (go_at_call 52; refine (keep_done l ad b off cap w1.heap.size (commIn l) (fun o ho => isOp_tx (HV.out o ho)) _ (by omega) ha (by rcases hbB with h | h; exact .inl (by omega); exact .inr h) (hops.below hbw hbB) (fun j hj => (hcm' j hj).1) hsz).mono ?_; rintro e w2 ⟨v2, rfl, hI2, hb2⟩)
      go_ret2
      exact ⟨_, rfl, hI2, hbw.trans (hb2.mono hbw.size)⟩

set_option maxHeartbeats 2000000 in
theorem of_ok (l : List Op3) (v : Value) (tx : Int) (w : World) (h : IsOps w v l) (hc : (chk l).2 = 0) (h1 : 1 ≤ tx) (h6 : tx ≤ 6) :
    Calls Tryz.prog 28 #[v, .int .i64 tx] w fun e w' => ∃ v', e = .returned (.tuple #[v', .nilIface]) ∧ IsOps w' v' (ofL l tx) ∧ Below w.heap.size w w' := by
  have hl40 := chk_len hc
  have hI := h
  obtain ⟨ad, b, off, cap, rfl, ha, hn, hbB, hops⟩ := h
  go_enter Tryz.func28, Tryz.ntmps28
  go_wp2_with (first | (go_at_call 16; refine (check_ok l _ _ hI hc).mono ?_; rintro e w1 ⟨rfl, hb1⟩; have hs1 := hb1.size) | (go_at_call 52; refine (keep_of l ad b off cap w1.heap.size tx _ (by omega) ha (by rcases hbB with h | h; exact .inl (by simp; omega); exact .inr h) ((hops.below hb1 hbB).below ((Below.refl w1.heap.size w1).alloc (Nat.le_refl _) _) (by rcases hbB with h | h; exact .inl (by omega); exact .inr h)) (by simp) (by simp)).mono ?_; rintro e w2 ⟨v2, rfl, hI2, hb2⟩) | go_in)
  go_ret2
  exact ⟨_, rfl, hI2, (hb1.alloc (by omega) _).trans (hb2.mono (by simp; omega))⟩
end Go.Proofs.YtmjjiehnjghndaaGreat

namespace Go.Proofs.YtmjjiehnjghndaaGreat
open Go.RowKit

/-- A slice value that holds a list of numbers. -/
def IsInts (w : World) (v : Value) (l : List Int) : Prop :=
  ∃ (ad : Option Addr) (b off cap : Nat), v = .slice ad l.length cap ∧ (0 < l.length → ad = some ⟨b, off, none⟩) ∧ (ad = none → l.length = 0 ∧ cap = 0) ∧ (b < w.heap.size ∨ l = []) ∧ ∀ i, i < l.length → w.cell? ⟨b, off + i, none⟩ = some (.int .i64 (l.getD i 0))
theorem IsInts.below {w w1 : World} {B : Nat} {v : Value} {l : List Int} (h : IsInts w v l) (hb : Below B w w1) (hB : w.heap.size ≤ B) : IsInts w1 v l := by
  obtain ⟨ad, b, off, cap, hv, ha, hn, hbB, hc⟩ := h
  have hs := hb.size
  refine ⟨ad, b, off, cap, hv, ha, hn, ?_, fun i hi => ?_⟩
  · rcases hbB with h | h
    · exact .inl (by omega)
    · exact .inr h
  · rcases hbB with h | h
    · rw [hb.cell (p := ⟨b, off + i, none⟩) (by simp; omega)]; exact hc i hi
    · subst h; simp at hi
theorem isInts_nil (w : World) : IsInts w (.slice none 0 0) [] := ⟨none, 0, 0, 0, rfl, fun h => absurd h (by simp), fun _ => ⟨rfl, rfl⟩, .inr rfl, fun i hi => by simp at hi⟩
theorem isInts_own {w : World} {base e n : Nat} {v : Value} {l : List Int} (h : w.ownsRow base e 1 v n (l.map (Value.int .i64))) (hl : l.length = n) : IsInts w v l := by
  have h' := h
  obtain ⟨_, ⟨hv, hd⟩ | ⟨g, cap, cur, hv, hb, hg, hn, hm, hsz, htk⟩⟩ := h'
  · have : l = [] := List.length_eq_zero_iff.1 (by omega)
    subst this
    rw [hv]
    exact isInts_nil w
  · refine ⟨some ⟨g, 0, none⟩, g, 0, cap, by rw [hl]; exact hv, fun _ => rfl, fun h => (by simp at h), .inl (h.lt g (by rw [hv]; rfl)).2, fun i hi => ?_⟩
    have := h.cells (g := g) (by rw [hv]; rfl) i (.int .i64 (l.getD i 0)) (by simp [List.getD, hi])
    rw [Addr.add_lit] at this
    exact this
/-- What is owned stays owned where nothing that was there turns. -/
theorem own_below {w w1 : World} {base e size n B : Nat} {v : Value} {xs : List Value} (h : w.ownsRow base e size v n xs) (hb : Below B w w1) (hB : w.heap.size ≤ B) : w1.ownsRow base e size v n xs := by
  have h' := h
  obtain ⟨hl, hd | ⟨g, cap, cur, hv, hbg, hg, hn, hm, hsz, htk⟩⟩ := h
  · exact ⟨hl, .inl hd⟩
  · refine ⟨hl, .inr ⟨g, cap, cur, hv, hbg, ?_, hn, hm, hsz, htk⟩⟩
    have hlt : g < w.heap.size := (h'.lt g (by rw [hv]; rfl)).2
    rw [hb.block g (by omega)]; exact hg
theorem infoInt : (Tryz.prog.info? 3).map (fun i => (i.zero, i.size, i.bytes)) = some (some (.int .i64 0), 1, 8) := by kernel_rfl
end Go.Proofs.YtmjjiehnjghndaaGreat
