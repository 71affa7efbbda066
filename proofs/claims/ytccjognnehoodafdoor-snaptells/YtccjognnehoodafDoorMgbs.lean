/-
  PROVED HERE: how a run of deals that see what was done (laneref2.Run) lies in memory: an array of deals, one of bools, rows of those that are done, of what was looked at, of what each saw and wrote, all apart; what becomes of it when one of its parts is set.
  Conditions: none.
  PROVED HERE: steps of a run of deals in memory (laneref2.Run): a deal begins; something is looked at; what is laid into the array of deals; boxes beside it.
  Conditions: none.
-/
import Derived.Test.YtccjognnehoodafDoorMgbd
import Derived.Test.YtccjognnehoodafDoorMgay
import Derived.Test.YtccjognnehoodafDoorMgbg
namespace Go.Proofs.YtccjognnehoodafDoor
open Go.RowKit

/-- Where the parts lie. -/
structure KLay where
  O : Nat
  B : Nat
  dv : Value
  lv : Value
  sv : Int → Value
  wv : Int → Value
def kPart (c : KLay) (i k : Nat) : Prop :=
  match i with
  | 0 => k = c.O
  | 1 => k = c.B
  | 2 => c.dv.ownBlock = some k
  | 3 => c.lv.ownBlock = some k
  | d + 4 => if d < 7 then (c.sv (d : Int)).ownBlock = some k else (c.wv ((d - 7 : Nat) : Int)).ownBlock = some k
def kFeet (c : KLay) (k : Nat) : Prop := ∃ i, i < 18 ∧ kPart c i k
def kOfs (c : KLay) (J : Nat → Prop) (k : Nat) : Prop := ∃ i, i < 18 ∧ J i ∧ kPart c i k
theorem kPart_seen (c : KLay) {d : Nat} (hd : d < 7) (k : Nat) : kPart c (d + 4) k ↔ (c.sv (d : Int)).ownBlock = some k := by unfold kPart; simp [hd]
theorem kPart_wrote (c : KLay) (d k : Nat) : kPart c (d + 11) k ↔ (c.wv (d : Int)).ownBlock = some k := by
  show (if d + 7 < 7 then (c.sv ((d + 7 : Nat) : Int)).ownBlock = some k else (c.wv ((d + 7 - 7 : Nat) : Int)).ownBlock = some k) ↔ _
  rw [if_neg (by omega), Nat.add_sub_cancel]
/-- A cell of the array of deals. -/
def dPart (s : Kst) (c : KLay) (n : Nat) : Value :=
  if n % 5 = 0 then .int .i64 (if s.beg ((n / 5 : Nat) : Int) = true then ((n / 5 : Nat) : Int) else 0) else if n % 5 = 1 then .int .i64 (s.of ((n / 5 : Nat) : Int)).began else if n % 5 = 2 then .int .i64 (s.of ((n / 5 : Nat) : Int)).ended
  else if n % 5 = 3 then c.sv ((n / 5 : Nat) : Int) else c.wv ((n / 5 : Nat) : Int)
def cells35 (s : Kst) (c : KLay) : Array Value := ((List.range 35).map (dPart s c)).toArray
def cellsB (s : Kst) : Array Value := ((List.range 7).map fun (d : Nat) => Value.bool (s.beg (d : Int))).toArray
theorem cells35_size (s : Kst) (c : KLay) : (cells35 s c).size = 35 := by simp [cells35]
theorem cells35_at (s : Kst) (c : KLay) {n : Nat} (h : n < 35) : (cells35 s c)[n]? = some (dPart s c n) := by simp [cells35, h]
theorem cellsB_at (s : Kst) {d : Nat} (h : d < 7) : (cellsB s)[d]? = some (.bool (s.beg (d : Int))) := by simp [cellsB, h]
theorem cellsB_set {s s1 : Kst} {d : Nat} (hd : d < 7) (h : s1.beg = setF s.beg (d : Int) true) : (cellsB s).setIfInBounds d (.bool true) = cellsB s1 := by
  refine Array.ext_getElem? fun j => ?_
  by_cases hj : j < 7
  · rw [cellsB_at s1 hj, Array.getElem?_setIfInBounds, show (cellsB s).size = 7 by simp [cellsB], cellsB_at s hj, h]
    by_cases e : d = j
    · subst e; rw [if_pos rfl, if_pos hd, setF_same]
    · rw [if_neg e, setF_other _ _ (by omega)]
  · rw [Array.getElem?_eq_none (by simp [cellsB]; omega), Array.getElem?_eq_none (by simp [cellsB]; omega)]
theorem cells35_set {s s1 : Kst} {c c1 : KLay} {d : Nat} (hd : d < 7) (hb : s1.beg = setF s.beg (d : Int) true) (ho : ∀ e, e ≠ (d : Int) → s1.of e = s.of e ∧ c1.sv e = c.sv e ∧ c1.wv e = c.wv e) :
    (((((cells35 s c).setIfInBounds (d * 5) (.int .i64 (d : Int))).setIfInBounds (d * 5 + 1) (.int .i64 (s1.of (d : Int)).began)).setIfInBounds (d * 5 + 2) (.int .i64 (s1.of (d : Int)).ended)).setIfInBounds (d * 5 + 3) (c1.sv (d : Int))).setIfInBounds (d * 5 + 4) (c1.wv (d : Int)) = cells35 s1 c1 := by
  refine Array.ext_getElem? fun j => ?_
  by_cases hj : j < 35
  · rw [cells35_at s1 c1 hj]
    simp only [Array.getElem?_setIfInBounds, Array.size_setIfInBounds, cells35_size]
    rw [cells35_at s c hj]
    by_cases h2 : j / 5 = d
    · have hq : dPart s1 c1 j = (if j % 5 = 0 then .int .i64 (d : Int) else if j % 5 = 1 then .int .i64 (s1.of (d : Int)).began else if j % 5 = 2 then .int .i64 (s1.of (d : Int)).ended else if j % 5 = 3 then c1.sv (d : Int) else c1.wv (d : Int)) := by
        unfold dPart
        rw [h2, hb, setF_same, if_pos rfl]
      rw [hq]
      rcases (show j = d * 5 ∨ j = d * 5 + 1 ∨ j = d * 5 + 2 ∨ j = d * 5 + 3 ∨ j = d * 5 + 4 by omega) with e | e | e | e | e
      · rw [if_neg (by omega), if_neg (by omega), if_neg (by omega), if_neg (by omega), if_pos e.symm, if_pos (by omega), if_pos (by omega)]
      · rw [if_neg (by omega), if_neg (by omega), if_neg (by omega), if_pos e.symm, if_pos (by omega), if_neg (by omega), if_pos (by omega)]
      · rw [if_neg (by omega), if_neg (by omega), if_pos e.symm, if_pos (by omega), if_neg (by omega), if_neg (by omega), if_pos (by omega)]
      · rw [if_neg (by omega), if_pos e.symm, if_pos (by omega), if_neg (by omega), if_neg (by omega), if_neg (by omega), if_pos (by omega)]
      · rw [if_pos e.symm, if_pos (by omega), if_neg (by omega), if_neg (by omega), if_neg (by omega), if_neg (by omega)]
    · rw [if_neg (by omega), if_neg (by omega), if_neg (by omega), if_neg (by omega), if_neg (by omega)]
      obtain ⟨o1, o2, o3⟩ := ho ((j / 5 : Nat) : Int) (by omega)
      unfold dPart
      rw [o1, o2, o3, hb, setF_other _ _ (show ((j / 5 : Nat) : Int) ≠ (d : Int) by omega)]
  · rw [Array.getElem?_eq_none (by simp [cells35_size]; omega), Array.getElem?_eq_none (by simp [cells35_size]; omega)]
/-- Those that are done, as cells. -/
def flatD (s : Kst) (c : KLay) (ds : List Int) : List Value := ds.flatMap fun t => [.int .i64 t, .int .i64 (s.of t).began, .int .i64 (s.of t).ended, c.sv t, c.wv t]
theorem flatD_len (s : Kst) (c : KLay) (ds : List Int) : (flatD s c ds).length = ds.length * 5 := by
  induction ds with
  | nil => rfl
  | cons t r ih => unfold flatD at ih ⊢; rw [List.flatMap_cons, List.length_append, ih]; simp; omega
theorem flatD_append (s : Kst) (c : KLay) (a b : List Int) : flatD s c (a ++ b) = flatD s c a ++ flatD s c b := by unfold flatD; rw [List.flatMap_append]
theorem flatD_same {s s1 : Kst} {c c1 : KLay} {ds : List Int} (h : ∀ t ∈ ds, s1.of t = s.of t ∧ c1.sv t = c.sv t ∧ c1.wv t = c.wv t) : flatD s1 c1 ds = flatD s c ds := by
  induction ds with
  | nil => rfl
  | cons t r ih =>
    obtain ⟨o1, o2, o3⟩ := h t List.mem_cons_self
    unfold flatD at ih ⊢
    rw [List.flatMap_cons, List.flatMap_cons, o1, o2, o3, ih fun t ht => h t (List.mem_cons_of_mem _ ht)]
theorem flatD_at (s : Kst) (c : KLay) : ∀ (ds : List Int) (i : Nat), i < ds.length → (flatD s c ds)[i * 5]? = some (.int .i64 (ds.getD i 0)) ∧ (flatD s c ds)[i * 5 + 1]? = some (.int .i64 (s.of (ds.getD i 0)).began) ∧ (flatD s c ds)[i * 5 + 2]? = some (.int .i64 (s.of (ds.getD i 0)).ended) ∧ (flatD s c ds)[i * 5 + 3]? = some (c.sv (ds.getD i 0)) ∧ (flatD s c ds)[i * 5 + 4]? = some (c.wv (ds.getD i 0)) := by
  intro ds
  induction ds with
  | nil => intro i hi; simp at hi
  | cons t r ih =>
    intro i hi
    have hc : flatD s c (t :: r) = [.int .i64 t, .int .i64 (s.of t).began, .int .i64 (s.of t).ended, c.sv t, c.wv t] ++ flatD s c r := by unfold flatD; rw [List.flatMap_cons]
    cases i with
    | zero => rw [hc]; exact ⟨rfl, rfl, rfl, rfl, rfl⟩
    | succ i =>
      obtain ⟨a0, a1, a2, a3, a4⟩ := ih i (by simpa using hi)
      have hg : (t :: r).getD (i + 1) 0 = r.getD i 0 := by simp [List.getD]
      rw [hc, hg]
      refine ⟨?_, ?_, ?_, ?_, ?_⟩
      · rw [List.getElem?_append_right (by simp; omega)]; simpa [show (i + 1) * 5 - 5 = i * 5 by omega] using a0
      · rw [List.getElem?_append_right (by simp; omega)]; simpa [show (i + 1) * 5 + 1 - 5 = i * 5 + 1 by omega] using a1
      · rw [List.getElem?_append_right (by simp; omega)]; simpa [show (i + 1) * 5 + 2 - 5 = i * 5 + 2 by omega] using a2
      · rw [List.getElem?_append_right (by simp; omega)]; simpa [show (i + 1) * 5 + 3 - 5 = i * 5 + 3 by omega] using a3
      · rw [List.getElem?_append_right (by simp; omega)]; simpa [show (i + 1) * 5 + 4 - 5 = i * 5 + 4 by omega] using a4
/-- A run in memory. -/
structure KAt (w : World) (s : Kst) (c : KLay) : Prop where
  blkO : w.heap[c.O]? = some (.cells (cells35 s c) 56 (0, 0))
  blkB : w.heap[c.B]? = some (.cells (cellsB s) 57 (0, 0))
  done : w.ownsRow 0 39 5 c.dv s.done.length (flatD s c s.done)
  looks : w.ownsRow 0 63 3 c.lv s.looks.length (flat s.looks)
  seen : ∀ d : Nat, d < 7 → w.ownsRow 0 63 3 (c.sv (d : Int)) (s.of (d : Int)).seen.length (flat (s.of (d : Int)).seen)
  wrote : ∀ d : Nat, d < 7 → w.ownsRow 0 3 1 (c.wv (d : Int)) (s.of (d : Int)).wrote.length ((s.of (d : Int)).wrote.map (Value.int .i64))
  apart : ∀ i j k, i < 18 → j < 18 → i ≠ j → kPart c i k → kPart c j k → False
section
variable {w w1 : World} {s s1 : Kst} {c c1 : KLay} {F J : Nat → Prop}
theorem KAt.part_lt (h : KAt w s c) : ∀ i k, i < 18 → kPart c i k → k < w.heap.size := by
  intro i k hi hk
  match i, hk with
  | 0, hk => rw [show k = c.O from hk]; exact (Array.getElem?_eq_some_iff.1 h.blkO).1
  | 1, hk => rw [show k = c.B from hk]; exact (Array.getElem?_eq_some_iff.1 h.blkB).1
  | 2, hk => exact (h.done.lt k hk).2
  | 3, hk => exact (h.looks.lt k hk).2
  | d + 4, hk =>
    by_cases hd : d < 7
    · exact ((h.seen d hd).lt k ((kPart_seen c hd k).1 hk)).2
    · obtain ⟨e, rfl⟩ : ∃ e, d = e + 7 := ⟨d - 7, by omega⟩
      exact ((h.wrote e (by omega)).lt k ((kPart_wrote c e k).1 hk)).2
theorem KAt.feet_lt (h : KAt w s c) {k : Nat} (hk : kFeet c k) : k < w.heap.size := by
  obtain ⟨i, hi, hk⟩ := hk
  exact h.part_lt i k hi hk
theorem KAt.keep (h : KAt w s c) {i : Nat} (hi : i < 18) (hj : ¬ J i) : ∀ k, kPart c i k → ¬ kOfs c J k := fun k hk ⟨j, hj1, hj2, hj3⟩ => h.apart i j k hi hj1 (fun e => hj (e ▸ hj2)) hk hj3
theorem KAt.blkOT (h : KAt w s c) (ht : Turns F w w1) (hF : ∀ k, kPart c 0 k → ¬ F k) : w1.heap[c.O]? = some (.cells (cells35 s c) 56 (0, 0)) := (ht.block c.O (h.part_lt 0 _ (by omega) rfl) (hF _ rfl)).trans h.blkO
theorem KAt.blkBT (h : KAt w s c) (ht : Turns F w w1) (hF : ∀ k, kPart c 1 k → ¬ F k) : w1.heap[c.B]? = some (.cells (cellsB s) 57 (0, 0)) := (ht.block c.B (h.part_lt 1 _ (by omega) rfl) (hF _ rfl)).trans h.blkB
theorem KAt.doneT (h : KAt w s c) (ht : Turns F w w1) (hF : ∀ k, kPart c 2 k → ¬ F k) : w1.ownsRow 0 39 5 c.dv s.done.length (flatD s c s.done) := ht.own h.done fun k hk => hF k hk
theorem KAt.looksT (h : KAt w s c) (ht : Turns F w w1) (hF : ∀ k, kPart c 3 k → ¬ F k) : w1.ownsRow 0 63 3 c.lv s.looks.length (flat s.looks) := ht.own h.looks fun k hk => hF k hk
theorem KAt.seenT (h : KAt w s c) (ht : Turns F w w1) {d : Nat} (hd : d < 7) (hF : ∀ k, kPart c (d + 4) k → ¬ F k) : w1.ownsRow 0 63 3 (c.sv (d : Int)) (s.of (d : Int)).seen.length (flat (s.of (d : Int)).seen) := ht.own (h.seen d hd) fun k hk => hF k ((kPart_seen c hd k).2 hk)
theorem KAt.wroteT (h : KAt w s c) (ht : Turns F w w1) {d : Nat} (hd : d < 7) (hF : ∀ k, kPart c (d + 11) k → ¬ F k) : w1.ownsRow 0 3 1 (c.wv (d : Int)) (s.of (d : Int)).wrote.length ((s.of (d : Int)).wrote.map (Value.int .i64)) := ht.own (h.wrote d hd) fun k hk => hF k ((kPart_wrote c d k).2 hk)
theorem KAt.turn (h : KAt w s c) (ht : Turns F w w1) (hF : ∀ k, kFeet c k → ¬ F k) : KAt w1 s c :=
  have hp : ∀ i, i < 18 → ∀ k, kPart c i k → ¬ F k := fun i hi k hk => hF k ⟨i, hi, hk⟩
  ⟨h.blkOT ht (hp 0 (by omega)), h.blkBT ht (hp 1 (by omega)), h.doneT ht (hp 2 (by omega)), h.looksT ht (hp 3 (by omega)), fun d hd => h.seenT ht hd (hp (d + 4) (by omega)), fun d hd => h.wroteT ht hd (hp (d + 11) (by omega)), h.apart⟩
theorem KAt.below (h : KAt w s c) (hb : Below w.heap.size w w1) : KAt w1 s c := h.turn (Turns.of_below (F := fun _ => False) hb) fun _ _ hf => hf
/-- Some parts have turned, one of them lies otherwise. -/
theorem KAt.change (h : KAt w s c) (m : Nat) (ht : Turns (kOfs c J) w w1) (hsame : ∀ i, i < 18 → i ≠ m → ∀ k, kPart c1 i k → kPart c i k) (hm : ∀ k, kPart c1 m k → kPart c m k ∨ w.heap.size ≤ k) (hm18 : m < 18)
    (blkO : w1.heap[c1.O]? = some (.cells (cells35 s1 c1) 56 (0, 0))) (blkB : w1.heap[c1.B]? = some (.cells (cellsB s1) 57 (0, 0))) (done : w1.ownsRow 0 39 5 c1.dv s1.done.length (flatD s1 c1 s1.done)) (looks : w1.ownsRow 0 63 3 c1.lv s1.looks.length (flat s1.looks))
    (seen : ∀ d : Nat, d < 7 → w1.ownsRow 0 63 3 (c1.sv (d : Int)) (s1.of (d : Int)).seen.length (flat (s1.of (d : Int)).seen)) (wrote : ∀ d : Nat, d < 7 → w1.ownsRow 0 3 1 (c1.wv (d : Int)) (s1.of (d : Int)).wrote.length ((s1.of (d : Int)).wrote.map (Value.int .i64))) :
    KAt w1 s1 c1 ∧ Turns (kFeet c) w w1 ∧ ∀ k, kFeet c1 k → kFeet c k ∨ w.heap.size ≤ k := by
  have hp : ∀ i k, i < 18 → kPart c1 i k → kPart c i k ∨ (i = m ∧ w.heap.size ≤ k) := fun i k hi hk => by
    by_cases e : i = m
    · subst e
      rcases hm k hk with h1 | h1
      · exact .inl h1
      · exact .inr ⟨rfl, h1⟩
    · exact .inl (hsame i hi e k hk)
  refine ⟨⟨blkO, blkB, done, looks, seen, wrote, fun i j k hi hj hij h1 h2 => ?_⟩, ht.mono fun k _ ⟨i, hi, _, hk⟩ => ⟨i, hi, hk⟩, fun k ⟨i, hi, hk⟩ => ?_⟩
  · rcases hp i k hi h1 with h3 | ⟨h3, h4⟩
    · rcases hp j k hj h2 with h5 | ⟨h5, h6⟩
      · exact h.apart i j k hi hj hij h3 h5
      · have := h.part_lt i k hi h3; omega
    · rcases hp j k hj h2 with h5 | ⟨h5, h6⟩
      · have := h.part_lt j k hj h5; omega
      · exact hij (h3.trans h5.symm)
  · rcases hp i k hi hk with h3 | ⟨_, h3⟩
    · exact .inl ⟨i, hi, h3⟩
    · exact .inr h3
end
section
variable {w w1 : World} {s s1 : Kst} {c c1 : KLay}
theorem KAt.cO (h : KAt w s c) {n : Nat} (hn : n < 35) : w.cell? ⟨c.O, n, none⟩ = some (dPart s c n) := by rw [cell_of_row w c.O _ _ _ _ h.blkO, cells35_at s c hn]
theorem KAt.cB (h : KAt w s c) {d : Nat} (hd : d < 7) : w.cell? ⟨c.B, d, none⟩ = some (.bool (s.beg (d : Int))) := by rw [cell_of_row w c.B _ _ _ _ h.blkB, cellsB_at s hd]
theorem KAt.thawO (h : KAt w s c) (k : Nat) : w.frozen? ⟨c.O, k, none⟩ = false := by simp [World.frozen?, h.blkO]
theorem KAt.thawB (h : KAt w s c) (k : Nat) : w.frozen? ⟨c.B, k, none⟩ = false := by simp [World.frozen?, h.blkB]
theorem KAt.deal (h : KAt w s c) {d : Nat} (hd : d < 7) (hb : s.beg (d : Int) = true) : DealAt w c.O 0 d (d : Int) (s.of (d : Int)) (c.sv (d : Int)) (c.wv (d : Int)) := by
  unfold DealAt
  refine ⟨?_, ?_, ?_, ?_, ?_⟩
  · rw [Nat.zero_add, h.cO (n := d * 5) (by omega)]
    unfold dPart
    rw [if_pos (by omega), show d * 5 / 5 = d by omega, hb, if_pos rfl]
  · rw [Nat.zero_add, h.cO (n := d * 5 + 1) (by omega)]
    unfold dPart
    rw [if_neg (by omega), if_pos (by omega), show (d * 5 + 1) / 5 = d by omega]
  · rw [Nat.zero_add, h.cO (n := d * 5 + 2) (by omega)]
    unfold dPart
    rw [if_neg (by omega), if_neg (by omega), if_pos (by omega), show (d * 5 + 2) / 5 = d by omega]
  · rw [Nat.zero_add, h.cO (n := d * 5 + 3) (by omega)]
    unfold dPart
    rw [if_neg (by omega), if_neg (by omega), if_neg (by omega), if_pos (by omega), show (d * 5 + 3) / 5 = d by omega]
  · rw [Nat.zero_add, h.cO (n := d * 5 + 4) (by omega)]
    unfold dPart
    rw [if_neg (by omega), if_neg (by omega), if_neg (by omega), if_neg (by omega), show (d * 5 + 4) / 5 = d by omega]
/-- A deal of it, as read, who and Anti are asked it. -/
theorem KAt.dl (h : KAt w s c) {d : Nat} (hd : d < 7) (hs : (s.of (d : Int)).seen.length ≤ 100 ∧ (s.of (d : Int)).wrote.length ≤ 100) : DlIs w (s.of (d : Int)) (c.sv (d : Int)) (c.wv (d : Int)) := ⟨isOps_row (h.seen d hd) rfl, isInts_own (h.wrote d hd) rfl, hs⟩
theorem deals_of_row {base : Nat} {v : Value} {ds : List Int} (hr : w.ownsRow base 39 5 v ds.length (flatD s c ds)) (hd : ∀ t ∈ ds, DlIs w (s.of t) (c.sv t) (c.wv t)) : IsDeals w v ds s.of := by
  obtain ⟨ad, cap, hv, hg⟩ := own_slice3 hr
  rcases Nat.eq_zero_or_pos ds.length with h0 | h0
  · exact ⟨ad, 0, 0, cap, hv, fun h => by omega, .inr (List.length_eq_zero_iff.1 h0), fun i hi => by omega⟩
  · obtain ⟨g, rfl, _, hgl, _⟩ := hg h0
    refine ⟨some ⟨g, 0, none⟩, g, 0, cap, hv, fun _ => rfl, .inl hgl, fun i hi => ⟨c.sv (ds.getD i 0), c.wv (ds.getD i 0), hd _ (by simp [List.getD, hi]), ?_⟩⟩
    obtain ⟨a0, a1, a2, a3, a4⟩ := flatD_at s c ds i hi
    have hc : ∀ j u, (flatD s c ds)[j]? = some u → w.cell? ⟨g, 0 + j, none⟩ = some u := fun j u hj => by
      have := hr.cells (g := g) (by rw [hv]; rfl) j u hj
      rw [Addr.add_lit] at this
      exact this
    exact ⟨hc _ _ a0, hc _ _ a1, hc _ _ a2, hc _ _ a3, hc _ _ a4⟩
theorem KAt.deals (h : KAt w s c) (hd : ∀ t ∈ s.done, 1 ≤ t ∧ t ≤ 6) (hs : ∀ t, (s.of t).seen.length ≤ 100 ∧ (s.of t).wrote.length ≤ 100) : IsDeals w c.dv s.done s.of :=
  deals_of_row h.done fun t ht => by
    obtain ⟨h1, h6⟩ := hd t ht
    obtain ⟨d, rfl⟩ : ∃ d : Nat, t = d := ⟨t.toNat, by omega⟩
    exact h.dl (by omega) (hs _)
theorem flatD_one (s : Kst) (c : KLay) (ds : List Int) (h : ∀ t ∈ ds, (c.sv t).oneCell' = true ∧ (c.wv t).oneCell' = true) : ∀ u ∈ flatD s c ds, u.oneCell' = true := by
  intro u hu
  unfold flatD at hu
  obtain ⟨t, ht, hu⟩ := List.mem_flatMap.1 hu
  obtain ⟨h1, h2⟩ := h t ht
  simp only [List.mem_cons, List.not_mem_nil, or_false] at hu
  rcases hu with rfl | rfl | rfl | rfl | rfl
  · rfl
  · rfl
  · rfl
  · exact h1
  · exact h2
/-- Five cells of the array of deals are set. -/
abbrev set5 (w : World) (O d : Nat) (t b e : Int) (sv wv : Value) : World := ((((w.setCell ⟨O, d * 5, none⟩ (.int .i64 t)).setCell ⟨O, d * 5 + 1, none⟩ (.int .i64 b)).setCell ⟨O, d * 5 + 2, none⟩ (.int .i64 e)).setCell ⟨O, d * 5 + 3, none⟩ sv).setCell ⟨O, d * 5 + 4, none⟩ wv
theorem set5_block {O d : Nat} {t b e : Int} {sv wv : Value} {cs : Array Value} {ty : TypeId} (h : w.heap[O]? = some (.cells cs ty (0, 0))) : (set5 w O d t b e sv wv).heap[O]? = some (.cells (((((cs.setIfInBounds (d * 5) (.int .i64 t)).setIfInBounds (d * 5 + 1) (.int .i64 b)).setIfInBounds (d * 5 + 2) (.int .i64 e)).setIfInBounds (d * 5 + 3) sv).setIfInBounds (d * 5 + 4) wv) ty (0, 0)) := by
  unfold set5
  rw [block_set (block_set (block_set (block_set (block_set h))))]
theorem turns_set {O n : Nat} (h : Turns (fun k => k = O) w w1) (u : Value) : Turns (fun k => k = O) w (w1.setCell ⟨O, n, none⟩ u) := by
  refine h.setCell ?_ u
  exact .inl rfl
theorem set5_turns (w : World) (O d : Nat) (t b e : Int) (sv wv : Value) : Turns (fun k => k = O) w (set5 w O d t b e sv wv) := by
  unfold set5
  exact turns_set (turns_set (turns_set (turns_set (turns_set (Turns.refl _ w) _) _) _) _) _
/-- One deal is another one: w0: one of its rows has turned, or none; then it is laid into the array. -/
theorem KAt.put {w0 : World} {d m : Nat} {r : Dl} {sv wv : Value} {dn : List Int} {dv : Value} (hd : d < 7) (h : KAt w s c) (hb : s.beg (d : Int) = true) (hm : m = 2 ∨ m = d + 4 ∨ m = d + 11) (ht : Turns (fun k => kPart c m k) w w0)
    (hsv : w0.ownsRow 0 63 3 sv r.seen.length (flat r.seen)) (hwv : w0.ownsRow 0 3 1 wv r.wrote.length (r.wrote.map (Value.int .i64))) (hdv : w0.ownsRow 0 39 5 dv dn.length (flatD { s with of := setF s.of (d : Int) r } { c with sv := setF c.sv (d : Int) sv, wv := setF c.wv (d : Int) wv } dn))
    (h2 : ∀ k, dv.ownBlock = some k → c.dv.ownBlock = some k ∨ (m = 2 ∧ w.heap.size ≤ k)) (h4 : ∀ k, sv.ownBlock = some k → (c.sv (d : Int)).ownBlock = some k ∨ (m = d + 4 ∧ w.heap.size ≤ k)) (h11 : ∀ k, wv.ownBlock = some k → (c.wv (d : Int)).ownBlock = some k ∨ (m = d + 11 ∧ w.heap.size ≤ k)) :
    KAt (set5 w0 c.O d (d : Int) r.began r.ended sv wv) { s with of := setF s.of (d : Int) r, done := dn } { c with dv := dv, sv := setF c.sv (d : Int) sv, wv := setF c.wv (d : Int) wv } ∧ Turns (kFeet c) w (set5 w0 c.O d (d : Int) r.began r.ended sv wv) ∧ ∀ k, kFeet { c with dv := dv, sv := setF c.sv (d : Int) sv, wv := setF c.wv (d : Int) wv } k → kFeet c k ∨ w.heap.size ≤ k := by
  have hm18 : m < 18 := by omega
  have hset := set5_turns w0 c.O d (d : Int) r.began r.ended sv wv
  have hJ : Turns (kOfs c fun j => j = 0 ∨ j = m) w (set5 w0 c.O d (d : Int) r.began r.ended sv wv) := (ht.mono fun k _ hk => ⟨m, hm18, .inr rfl, hk⟩).trans hset fun k _ hk => ⟨0, by omega, .inl rfl, hk⟩
  have hO0 : w0.heap[c.O]? = some (.cells (cells35 s c) 56 (0, 0)) := h.blkOT ht fun k hk hf => h.apart 0 m k (by omega) hm18 (by omega) hk hf
  have hnew : ∀ v : Value, (∀ k, v.ownBlock = some k → (∃ i, i < 18 ∧ i ≠ 0 ∧ kPart c i k) ∨ w.heap.size ≤ k) → ∀ k, v.ownBlock = some k → ¬ k = c.O := fun v hv k hk e => by
    rcases hv k hk with ⟨i, hi, hi0, hp⟩ | h1
    · exact h.apart i 0 k hi (by omega) hi0 hp e
    · have := h.part_lt 0 c.O (by omega) rfl
      omega
  have hbeg : setF s.beg (d : Int) true = s.beg := funext fun e => by
    unfold setF
    split
    · rename_i e1; rw [e1, hb]
    · rfl
  refine h.change (s1 := { s with of := setF s.of (d : Int) r, done := dn }) (c1 := { c with dv := dv, sv := setF c.sv (d : Int) sv, wv := setF c.wv (d : Int) wv }) m hJ (fun i hi hne k hk => ?_) (fun k hk => ?_) hm18 ?_ (h.blkBT hJ (h.keep (by omega) (by omega))) ?_ (h.looksT hJ (h.keep (by omega) (by omega))) (fun e he => ?_) fun e he => ?_
  · match i, hne, hk with
    | 0, _, hk => exact hk
    | 1, _, hk => exact hk
    | 2, hne, hk => exact (h2 k hk).elim id fun ⟨e, _⟩ => absurd e.symm hne
    | 3, _, hk => exact hk
    | e + 4, hne, hk =>
      by_cases he : e < 7
      · rw [kPart_seen _ he] at hk ⊢
        have hk' : (setF c.sv (d : Int) sv (e : Int)).ownBlock = some k := hk
        by_cases e1 : e = d
        · subst e1
          rw [setF_same] at hk'
          exact (h4 k hk').elim id fun ⟨e2, _⟩ => absurd e2.symm hne
        · rw [setF_other _ _ (by omega)] at hk'; exact hk'
      · obtain ⟨f, rfl⟩ : ∃ f, e = f + 7 := ⟨e - 7, by omega⟩
        have hk2 := (kPart_wrote _ f k).1 hk
        have hk' : (setF c.wv (d : Int) wv (f : Int)).ownBlock = some k := hk2
        refine (kPart_wrote c f k).2 ?_
        by_cases e1 : f = d
        · subst e1
          rw [setF_same] at hk'
          exact (h11 k hk').elim id fun ⟨e2, _⟩ => absurd e2.symm hne
        · rw [setF_other _ _ (by omega)] at hk'; exact hk'
  · rcases hm with rfl | rfl | rfl
    · exact (h2 k hk).elim .inl fun ⟨_, e⟩ => .inr e
    · have hk' : (setF c.sv (d : Int) sv (d : Int)).ownBlock = some k := (kPart_seen _ hd k).1 hk
      rw [setF_same] at hk'
      rcases h4 k hk' with h5 | ⟨_, h5⟩
      · exact .inl ((kPart_seen c hd k).2 h5)
      · exact .inr h5
    · have hk' : (setF c.wv (d : Int) wv (d : Int)).ownBlock = some k := (kPart_wrote _ d k).1 hk
      rw [setF_same] at hk'
      rcases h11 k hk' with h5 | ⟨_, h5⟩
      · exact .inl ((kPart_wrote c d k).2 h5)
      · exact .inr h5
  · have h5 := set5_block (d := d) (t := (d : Int)) (b := r.began) (e := r.ended) (sv := sv) (wv := wv) hO0
    have h6 := cells35_set (s := s) (s1 := { s with of := setF s.of (d : Int) r, done := dn }) (c := c) (c1 := { c with dv := dv, sv := setF c.sv (d : Int) sv, wv := setF c.wv (d : Int) wv }) hd hbeg.symm (fun e he => ⟨setF_other _ _ he, setF_other _ _ he, setF_other _ _ he⟩)
    simp only [setF_same] at h6
    rw [h6] at h5
    exact h5
  · exact hset.own hdv fun k hk => hnew dv (fun k hk => (h2 k hk).elim (fun e => .inl ⟨2, by omega, by omega, e⟩) fun ⟨_, e⟩ => .inr e) k hk
  · show World.ownsRow _ _ _ _ (setF c.sv (d : Int) sv (e : Int)) (setF s.of (d : Int) r (e : Int)).seen.length (flat (setF s.of (d : Int) r (e : Int)).seen)
    by_cases e1 : e = d
    · subst e1
      rw [setF_same, setF_same]
      exact hset.own hsv fun k hk => hnew sv (fun k hk => (h4 k hk).elim (fun e2 => .inl ⟨e + 4, by omega, by omega, (kPart_seen c hd k).2 e2⟩) fun ⟨_, e2⟩ => .inr e2) k hk
    · rw [setF_other _ _ (by omega), setF_other _ _ (by omega)]
      exact h.seenT hJ he (h.keep (by omega) (by omega))
  · show World.ownsRow _ _ _ _ (setF c.wv (d : Int) wv (e : Int)) (setF s.of (d : Int) r (e : Int)).wrote.length ((setF s.of (d : Int) r (e : Int)).wrote.map (Value.int .i64))
    by_cases e1 : e = d
    · subst e1
      rw [setF_same, setF_same]
      exact hset.own hwv fun k hk => hnew wv (fun k hk => (h11 k hk).elim (fun e2 => .inl ⟨e + 11, by omega, by omega, (kPart_wrote c e k).2 e2⟩) fun ⟨_, e2⟩ => .inr e2) k hk
    · rw [setF_other _ _ (by omega), setF_other _ _ (by omega)]
      exact h.wroteT hJ he (h.keep (by omega) (by omega))
end
end Go.Proofs.YtccjognnehoodafDoor

namespace Go.Proofs.YtccjognnehoodafDoor
open Go.RowKit

theorem setF_setF {α : Type} (f : Int → α) (t : Int) (x y : α) : setF (setF f t x) t y = setF f t y := funext fun j => by
  unfold setF
  split <;> rfl
theorem setF_id {α : Type} {f : Int → α} {t : Int} {x : α} (h : f t = x) : setF f t x = f := funext fun j => by
  unfold setF
  split
  · rename_i e; rw [e, h]
  · rfl
theorem stay_begun {s : Kst} {at_ t : Int} (h : s.beg t = true) : stayStep s at_ t = s := by
  unfold stayStep nowK
  rw [if_pos h, setF_id rfl, setF_id h]
theorem stay_fresh {s : Kst} {at_ t : Int} (h : s.beg t = false) : stayStep s at_ t = { s with of := setF s.of t ⟨at_, -1, [], []⟩, beg := setF s.beg t true } := by
  unfold stayStep nowK
  rw [if_neg (by rw [h]; decide)]
theorem stay_put (s : Kst) (at_ t : Int) (r : Dl) (dn : List Int) : ({ stayStep s at_ t with of := setF (stayStep s at_ t).of t r, done := dn } : Kst) = { s with of := setF s.of t r, beg := setF s.beg t true, done := dn } := by
  unfold stayStep
  simp only [setF_setF]
theorem stay_of (s : Kst) (at_ t : Int) : (stayStep s at_ t).of t = nowK s at_ t := setF_same _ _ _
theorem stay_other (s : Kst) (at_ : Int) {t u : Int} (h : u ≠ t) : (stayStep s at_ t).of u = s.of u := setF_other _ _ h
theorem deals_congr {w : World} {v : Value} {ds : List Int} {of of1 : Int → Dl} (h : IsDeals w v ds of) (he : ∀ t ∈ ds, of1 t = of t) : IsDeals w v ds of1 := by
  obtain ⟨ad, b, off, cap, hv, ha, hb, hc⟩ := h
  refine ⟨ad, b, off, cap, hv, ha, hb, fun i hi => ?_⟩
  rw [he _ (show ds.getD i 0 ∈ ds by simp [List.getD, hi])]
  exact hc i hi
section
variable {w w0 w1 : World} {s s1 : Kst} {c c1 : KLay}
/-- A deal begins. -/
theorem KAt.begin {d : Nat} {at_ : Int} (hd : d < 7) (h : KAt w s c) (hb : s.beg (d : Int) = false) (hnd : ∀ t ∈ s.done, t ≠ (d : Int)) :
    ∃ c1, KAt (set5 (w.setCell ⟨c.B, d, none⟩ (.bool true)) c.O d (d : Int) at_ (-1) (.slice none 0 0) (.slice none 0 0)) (stayStep s at_ (d : Int)) c1 ∧ Turns (kFeet c) w (set5 (w.setCell ⟨c.B, d, none⟩ (.bool true)) c.O d (d : Int) at_ (-1) (.slice none 0 0) (.slice none 0 0)) ∧ (∀ k, kFeet c1 k → kFeet c k ∨ w.heap.size ≤ k) ∧ c1.O = c.O ∧ c1.B = c.B ∧ c1.dv = c.dv ∧ c1.lv = c.lv := by
  have hB : Turns (fun k => k = c.B) w (w.setCell ⟨c.B, d, none⟩ (.bool true)) := by
    refine Turns.setCell (Turns.refl _ w) ?_ _
    exact .inl rfl
  have hset := set5_turns (w.setCell ⟨c.B, d, none⟩ (.bool true)) c.O d (d : Int) at_ (-1) (.slice none 0 0) (.slice none 0 0)
  have hJ : Turns (kOfs c fun j => j = 0 ∨ j = 1) w (set5 (w.setCell ⟨c.B, d, none⟩ (.bool true)) c.O d (d : Int) at_ (-1) (.slice none 0 0) (.slice none 0 0)) := (hB.mono fun k _ hk => ⟨1, by omega, .inr rfl, hk⟩).trans hset fun k _ hk => ⟨0, by omega, .inl rfl, hk⟩
  have hOB : c.O ≠ c.B := fun e => h.apart 0 1 c.O (by omega) (by omega) (by omega) rfl e
  have hO0 : (w.setCell ⟨c.B, d, none⟩ (.bool true)).heap[c.O]? = some (.cells (cells35 s c) 56 (0, 0)) := (hB.block c.O (h.part_lt 0 _ (by omega) rfl) hOB).trans h.blkO
  rw [stay_fresh hb]
  refine ⟨{ c with sv := setF c.sv (d : Int) (.slice none 0 0), wv := setF c.wv (d : Int) (.slice none 0 0) }, ?_⟩
  have hch := h.change (s1 := { s with of := setF s.of (d : Int) ⟨at_, -1, [], []⟩, beg := setF s.beg (d : Int) true }) (c1 := { c with sv := setF c.sv (d : Int) (.slice none 0 0), wv := setF c.wv (d : Int) (.slice none 0 0) }) 0 hJ (fun i hi hne k hk => by
      match i, hne, hk with
      | 0, hne, _ => exact absurd rfl hne
      | 1, _, hk => exact hk
      | 2, _, hk => exact hk
      | 3, _, hk => exact hk
      | e + 4, _, hk =>
        by_cases he : e < 7
        · rw [kPart_seen _ he] at hk ⊢
          have hk' : (setF c.sv (d : Int) (.slice none 0 0) (e : Int)).ownBlock = some k := hk
          by_cases e1 : e = d
          · subst e1; rw [setF_same] at hk'; simp [Value.ownBlock] at hk'
          · rw [setF_other _ _ (by omega)] at hk'; exact hk'
        · obtain ⟨f, rfl⟩ : ∃ f, e = f + 7 := ⟨e - 7, by omega⟩
          have hk' : (setF c.wv (d : Int) (.slice none 0 0) (f : Int)).ownBlock = some k := (kPart_wrote _ f k).1 hk
          refine (kPart_wrote c f k).2 ?_
          by_cases e1 : f = d
          · subst e1; rw [setF_same] at hk'; simp [Value.ownBlock] at hk'
          · rw [setF_other _ _ (by omega)] at hk'; exact hk') (fun k hk => .inl hk) (by omega) (by
      have h5 := set5_block (d := d) (t := (d : Int)) (b := at_) (e := -1) (sv := .slice none 0 0) (wv := .slice none 0 0) hO0
      have h6 := cells35_set (s := s) (s1 := { s with of := setF s.of (d : Int) ⟨at_, -1, [], []⟩, beg := setF s.beg (d : Int) true }) (c := c) (c1 := { c with sv := setF c.sv (d : Int) (.slice none 0 0), wv := setF c.wv (d : Int) (.slice none 0 0) }) hd rfl (fun e he => ⟨setF_other _ _ he, setF_other _ _ he, setF_other _ _ he⟩)
      simp only [setF_same] at h6
      rw [h6] at h5
      exact h5) (by
      have h7 : (w.setCell ⟨c.B, d, none⟩ (.bool true)).heap[c.B]? = some (.cells (cellsB { s with of := setF s.of (d : Int) ⟨at_, -1, [], []⟩, beg := setF s.beg (d : Int) true }) 57 (0, 0)) := by rw [block_set h.blkB, cellsB_set (s1 := { s with of := setF s.of (d : Int) ⟨at_, -1, [], []⟩, beg := setF s.beg (d : Int) true }) hd rfl]
      exact (hset.block c.B (Array.getElem?_eq_some_iff.1 h7).1 (Ne.symm hOB)).trans h7) (by
      have h8 := h.doneT hJ (h.keep (by omega) (by omega))
      show World.ownsRow _ _ _ _ _ _ (flatD _ _ s.done)
      rw [flatD_same (s := s) (c := c) fun t ht => ⟨setF_other _ _ (hnd t ht), setF_other _ _ (hnd t ht), setF_other _ _ (hnd t ht)⟩]
      exact h8) (h.looksT hJ (h.keep (by omega) (by omega))) (fun e he => by
      show World.ownsRow _ _ _ _ (setF c.sv (d : Int) (.slice none 0 0) (e : Int)) (setF s.of (d : Int) ⟨at_, -1, [], []⟩ (e : Int)).seen.length (flat (setF s.of (d : Int) ⟨at_, -1, [], []⟩ (e : Int)).seen)
      by_cases e1 : e = d
      · subst e1; rw [setF_same, setF_same]; exact World.ownsRow_nil _ _ _ _
      · rw [setF_other _ _ (by omega), setF_other _ _ (by omega)]; exact h.seenT hJ he (h.keep (by omega) (by omega))) fun e he => by
      show World.ownsRow _ _ _ _ (setF c.wv (d : Int) (.slice none 0 0) (e : Int)) (setF s.of (d : Int) ⟨at_, -1, [], []⟩ (e : Int)).wrote.length ((setF s.of (d : Int) ⟨at_, -1, [], []⟩ (e : Int)).wrote.map (Value.int .i64))
      by_cases e1 : e = d
      · subst e1; rw [setF_same, setF_same]; exact World.ownsRow_nil _ _ _ _
      · rw [setF_other _ _ (by omega), setF_other _ _ (by omega)]; exact h.wroteT hJ he (h.keep (by omega) (by omega))
  exact ⟨hch.1, hch.2.1, hch.2.2, rfl, rfl, rfl, rfl⟩
/-- Something more is looked at. -/
theorem KAt.look {x : Op3} {v : Value} (h : KAt w s c) (ht : Turns (fun k => c.lv.ownBlock = some k) w w1) (hv : w1.ownsRow 0 63 3 v (s.looks.length + 1) (flat s.looks ++ flat [x])) (hap : ∀ k, v.ownBlock = some k → c.lv.ownBlock = some k ∨ w.heap.size ≤ k) :
    KAt w1 { s with looks := s.looks ++ [x] } { c with lv := v } ∧ Turns (kFeet c) w w1 ∧ ∀ k, kFeet { c with lv := v } k → kFeet c k ∨ w.heap.size ≤ k := by
  have hJ : Turns (kOfs c fun j => j = 3) w w1 := ht.mono fun k _ hk => ⟨3, by omega, rfl, hk⟩
  exact h.change (s1 := { s with looks := s.looks ++ [x] }) (c1 := { c with lv := v }) 3 hJ (fun i hi hne k hk => by
    match i, hne, hk with
    | 0, _, hk => exact hk
    | 1, _, hk => exact hk
    | 2, _, hk => exact hk
    | 3, hne, _ => exact absurd rfl hne
    | e + 4, _, hk => exact hk) hap (by omega) (h.blkOT hJ (h.keep (by omega) (by omega))) (h.blkBT hJ (h.keep (by omega) (by omega))) (h.doneT hJ (h.keep (by omega) (by omega))) (by rw [List.length_append, flat_append]; exact hv) (fun e he => h.seenT hJ he (h.keep (by omega) (by omega))) fun e he => h.wroteT hJ he (h.keep (by omega) (by omega))
end
/-- A run that has been made since a world. -/
structure KOwn (w0 w : World) (s : Kst) (c : KLay) : Prop where
  run : KAt w s c
  old : Below w0.heap.size w0 w
  feet : ∀ k, kFeet c k → w0.heap.size ≤ k
section
variable {w0 w w1 : World} {s s1 : Kst} {c c1 : KLay}
theorem KOwn.below (h : KOwn w0 w s c) (hb : Below w.heap.size w w1) : KOwn w0 w1 s c := ⟨h.run.below hb, h.old.trans (hb.mono h.old.size), h.feet⟩
theorem KOwn.to (h : KOwn w0 w s c) (h1 : KAt w1 s1 c1) (h2 : Turns (kFeet c) w w1) (h3 : ∀ k, kFeet c1 k → kFeet c k ∨ w.heap.size ≤ k) : KOwn w0 w1 s1 c1 := by
  refine ⟨h1, h.old.trans (h2.below h.old.size fun k hk hf => ?_), fun k hk => ?_⟩
  · have := h.feet k hf; omega
  · rcases h3 k hk with h4 | h4
    · exact h.feet k h4
    · exact Nat.le_trans h.old.size h4
end
/-- An op, and a deal, in blocks of their own beside it. -/
def OpBx (w : World) (Q : Nat) (x : Op3) : Prop := w.cell? ⟨Q, 0, none⟩ = some (.int .i64 x.1) ∧ w.cell? ⟨Q, 1, none⟩ = some (.int .i64 x.2.1) ∧ w.cell? ⟨Q, 2, none⟩ = some (.int .i64 x.2.2)
theorem OpBx.lt {w : World} {Q : Nat} {x : Op3} (h : OpBx w Q x) : Q < w.heap.size := World.block_lt_of_cell? w _ h.1
theorem OpBx.turn {w w1 : World} {F : Nat → Prop} {Q : Nat} {x : Op3} (h : OpBx w Q x) (ht : Turns F w w1) (hF : ¬ F Q) : OpBx w1 Q x :=
  ⟨(ht.cell (p := ⟨Q, 0, none⟩) h.lt hF).trans h.1, (ht.cell (p := ⟨Q, 1, none⟩) h.lt hF).trans h.2.1, (ht.cell (p := ⟨Q, 2, none⟩) h.lt hF).trans h.2.2⟩
theorem OpBx.below {w w1 : World} {Q : Nat} {x : Op3} (h : OpBx w Q x) (hb : Below w.heap.size w w1) : OpBx w1 Q x := h.turn (Turns.of_below (F := fun _ => False) hb) fun hf => hf
theorem opBx_new (w : World) (t i m : Int) (T : TypeId) : OpBx (w.alloc (.cells #[.int .i64 t, .int .i64 i, .int .i64 m] T)) w.heap.size (t, i, m) := by
  refine ⟨?_, ?_, ?_⟩ <;> simp
def DlBx (w : World) (D : Nat) (t : Int) (r : Dl) (sv wv : Value) : Prop := w.heap[D]? = some (.cells #[.int .i64 t, .int .i64 r.began, .int .i64 r.ended, sv, wv] 39 (0, 0))
theorem DlBx.lt {w : World} {D : Nat} {t : Int} {r : Dl} {sv wv : Value} (h : DlBx w D t r sv wv) : D < w.heap.size := (Array.getElem?_eq_some_iff.1 h).1
theorem DlBx.turn {w w1 : World} {F : Nat → Prop} {D : Nat} {t : Int} {r : Dl} {sv wv : Value} (h : DlBx w D t r sv wv) (ht : Turns F w w1) (hF : ¬ F D) : DlBx w1 D t r sv wv := (ht.block D h.lt hF).trans h
theorem DlBx.below {w w1 : World} {D : Nat} {t : Int} {r : Dl} {sv wv : Value} (h : DlBx w D t r sv wv) (hb : Below w.heap.size w w1) : DlBx w1 D t r sv wv := (hb.block D h.lt).trans h
theorem DlBx.cells {w : World} {D : Nat} {t : Int} {r : Dl} {sv wv : Value} (h : DlBx w D t r sv wv) : w.cell? ⟨D, 0, none⟩ = some (.int .i64 t) ∧ w.cell? ⟨D, 1, none⟩ = some (.int .i64 r.began) ∧ w.cell? ⟨D, 2, none⟩ = some (.int .i64 r.ended) ∧ w.cell? ⟨D, 3, none⟩ = some sv ∧ w.cell? ⟨D, 4, none⟩ = some wv := by
  refine ⟨?_, ?_, ?_, ?_, ?_⟩ <;> rw [cell_of_row w D _ _ _ _ h] <;> rfl
theorem DlBx.thaw {w : World} {D : Nat} {t : Int} {r : Dl} {sv wv : Value} (h : DlBx w D t r sv wv) (k : Nat) : w.frozen? ⟨D, k, none⟩ = false := by
  have h' : w.heap[D]? = some (.cells #[.int .i64 t, .int .i64 r.began, .int .i64 r.ended, sv, wv] 39 (0, 0)) := h
  simp [World.frozen?, h']
theorem KAt.slots {w : World} {s : Kst} {c : KLay} (h : KAt w s c) {d : Nat} (hd : d < 7) : (∃ x0 x1 x2 x3 x4, w.cell? ⟨c.O, d * 5, none⟩ = some x0 ∧ w.cell? ⟨c.O, d * 5 + 1, none⟩ = some x1 ∧ w.cell? ⟨c.O, d * 5 + 2, none⟩ = some x2 ∧ w.cell? ⟨c.O, d * 5 + 3, none⟩ = some x3 ∧ w.cell? ⟨c.O, d * 5 + 4, none⟩ = some x4) ∧ w.frozen? ⟨c.O, d * 5, none⟩ = false ∧ w.frozen? ⟨c.O, d * 5 + 1, none⟩ = false ∧ w.frozen? ⟨c.O, d * 5 + 2, none⟩ = false ∧ w.frozen? ⟨c.O, d * 5 + 3, none⟩ = false ∧ w.frozen? ⟨c.O, d * 5 + 4, none⟩ = false :=
  ⟨⟨_, _, _, _, _, h.cO (by omega), h.cO (by omega), h.cO (by omega), h.cO (by omega), h.cO (by omega)⟩, h.thawO _, h.thawO _, h.thawO _, h.thawO _, h.thawO _⟩
/-- A cell of a block beside is set in both. -/
theorem Turns.beside {F : Nat → Prop} {w w1 : World} {D n : Nat} {u : Value} (ht : Turns F w w1) (hD : D < w.heap.size) (hF : ¬ F D) : Turns F (w.setCell ⟨D, n, none⟩ u) (w1.setCell ⟨D, n, none⟩ u) := by
  refine ⟨ht.os, ht.tape, ht.output, by simpa using ht.size, fun k hk hf => ?_⟩
  have hk' : k < w.heap.size := by simpa using hk
  have hb := ht.block k hk' hf
  by_cases e : k = D
  · subst e
    unfold World.setCell
    simp only [Array.getElem?_modify, if_true]
    rw [hb]
  · rw [Below.heap_setCell _ _ _ _ (fun e2 => e e2), Below.heap_setCell _ _ _ _ (fun e2 => e e2)]
    exact hb
theorem turns_cell (w : World) (D n : Nat) (u : Value) : Turns (fun k => k = D) w (w.setCell ⟨D, n, none⟩ u) := by
  refine Turns.setCell (Turns.refl _ w) ?_ _
  exact .inl rfl
theorem KOwn.box {w0 w : World} {s : Kst} {c : KLay} (h : KOwn w0 w s c) {D n : Nat} {u : Value} (hD : ¬ kFeet c D) (h0 : w0.heap.size ≤ D) : KOwn w0 (w.setCell ⟨D, n, none⟩ u) s c :=
  ⟨h.run.turn (turns_cell w D n u) fun _ hk e => hD (e ▸ hk), h.old.trans ((turns_cell w D n u).below h.old.size fun _ hk e => by omega), h.feet⟩
theorem own_cell {w : World} {base e size n : Nat} {v : Value} {xs : List Value} (h : w.ownsRow base e size v n xs) {D q : Nat} {u : Value} (hD : ¬ v.ownBlock = some D) : (w.setCell ⟨D, q, none⟩ u).ownsRow base e size v n xs := (turns_cell w D q u).own h fun _ hk e => hD (e ▸ hk)
end Go.Proofs.YtccjognnehoodafDoor
