/-
  PROVED HERE: how a run of deals that keep locks (strict.lane: a way, a table, what is told, who is aborted, who waits for what, what stands behind) lies in memory: a block, a table, three maps and seven rows of its own, all apart; what becomes of it when one of its parts is set.
  Conditions: none.
  PROVED HERE: strict.lane's small methods, over a run in memory: tell, isAborted, isWaiting, waitsFor; lockOf and opOf.
  Conditions: the lists are short; for waitsFor what is said of those that wait fits the table.
-/
import Derived.Test.YtmjjiehnjghndaaGreatMgbl
import Derived.Test.YtmjjiehnjghndaaGreatMgbs
import Derived.Test.YtmjjiehnjghndaaGreatMgbu
import Derived.Test.YtmjjiehnjghndaaGreatMgas
import Derived.Test.YtmjjiehnjghndaaGreatMgbr
namespace Go.Proofs.YtmjjiehnjghndaaGreat
open Go.RowKit

/-- Where the parts lie. -/
structure Lay where
  T : Nat
  A : Nat
  W : Nat
  B : Nat
  F : Nat → Prop
  tv : Value
  h : Int → Option Value
def Lay.bv (c : Lay) (d : Int) : Value := (c.h d).getD (.slice none 0 0)
def part (R : Nat) (c : Lay) (i k : Nat) : Prop :=
  match i with
  | 0 => k = R
  | 1 => c.F k
  | 2 => c.tv.ownBlock = some k
  | 3 => k = c.A
  | 4 => k = c.W
  | 5 => k = c.B
  | d + 6 => (c.bv (d : Int)).ownBlock = some k
def feet (R : Nat) (c : Lay) (k : Nat) : Prop := ∃ i, i < 13 ∧ part R c i k
def laneCells (way : Int) (c : Lay) : Array Value := #[.int .i64 way, .pointer (some ⟨c.T, 0, none⟩), c.tv, .map (some c.A), .map (some c.W), .map (some c.B)]
/-- A run in memory; g: the map of those that wait. -/
structure LaneAt (w : World) (R : Nat) (way : Int) (r : Runr) (g : Int → Option Value) (c : Lay) : Prop where
  blk : w.heap[R]? = some (.cells (laneCells way c) 54 (0, 0))
  tab : PTab w c.T c.F r.tab
  told : w.ownsRow 0 38 3 c.tv r.told.length (flat r.told)
  outs : MapIs w c.A (victF r.vict) r.vict.length
  wts : ∃ m, MapIs w c.W g m
  beh : ∃ m, MapIs w c.B c.h m
  rows : ∀ d : Nat, d < 7 → Tail w 0 38 3 (c.bv (d : Int)) (r.behind (d : Int)).length (flat (r.behind (d : Int)))
  apart : ∀ i j k, i < 13 → j < 13 → i ≠ j → part R c i k → part R c j k → False
/-- The blocks of some parts. -/
def ofs (R : Nat) (c : Lay) (J : Nat → Prop) (k : Nat) : Prop := ∃ i, i < 13 ∧ J i ∧ part R c i k
section
variable {w w1 : World} {R : Nat} {way : Int} {r r1 : Runr} {g g1 : Int → Option Value} {c c1 : Lay} {F J : Nat → Prop}
theorem LaneAt.part_lt (h : LaneAt w R way r g c) : ∀ i k, i < 13 → part R c i k → k < w.heap.size := by
  intro i k hi hk
  match i, hk with
  | 0, hk => rw [show k = R from hk]; exact (Array.getElem?_eq_some_iff.1 h.blk).1
  | 1, hk => exact locksQ.lt h.tab k hk
  | 2, hk => exact (h.told.lt k hk).2
  | 3, hk => rw [show k = c.A from hk]; exact h.outs.lt
  | 4, hk => rw [show k = c.W from hk]; exact h.wts.elim fun _ h => h.lt
  | 5, hk => rw [show k = c.B from hk]; exact h.beh.elim fun _ h => h.lt
  | d + 6, hk => exact ((h.rows d (by omega)).lt k hk).2
theorem LaneAt.lt (h : LaneAt w R way r g c) : R < w.heap.size := h.part_lt 0 R (by omega) rfl
theorem LaneAt.feet_lt (h : LaneAt w R way r g c) {k : Nat} (hk : feet R c k) : k < w.heap.size := by
  obtain ⟨i, hi, hk⟩ := hk
  exact h.part_lt i k hi hk
theorem LaneAt.keep (h : LaneAt w R way r g c) {i : Nat} (hi : i < 13) (hj : ¬ J i) : ∀ k, part R c i k → ¬ ofs R c J k := fun k hk ⟨j, hj1, hj2, hj3⟩ => h.apart i j k hi hj1 (fun e => hj (e ▸ hj2)) hk hj3
theorem LaneAt.blkT (h : LaneAt w R way r g c) (ht : Turns F w w1) (hF : ∀ k, part R c 0 k → ¬ F k) : w1.heap[R]? = some (.cells (laneCells way c) 54 (0, 0)) := (ht.block R h.lt (hF R rfl)).trans h.blk
theorem LaneAt.tabT (h : LaneAt w R way r g c) (ht : Turns F w w1) (hF : ∀ k, part R c 1 k → ¬ F k) : PTab w1 c.T c.F r.tab := locksQ.stays _ h.tab ht fun k hk => hF k hk
theorem LaneAt.toldT (h : LaneAt w R way r g c) (ht : Turns F w w1) (hF : ∀ k, part R c 2 k → ¬ F k) : w1.ownsRow 0 38 3 c.tv r.told.length (flat r.told) := ht.own h.told fun k hk => hF k hk
theorem LaneAt.outsT (h : LaneAt w R way r g c) (ht : Turns F w w1) (hF : ∀ k, part R c 3 k → ¬ F k) : MapIs w1 c.A (victF r.vict) r.vict.length := h.outs.turn ht (hF _ rfl)
theorem LaneAt.wtsT (h : LaneAt w R way r g c) (ht : Turns F w w1) (hF : ∀ k, part R c 4 k → ¬ F k) : ∃ m, MapIs w1 c.W g m := h.wts.elim fun m h1 => ⟨m, h1.turn ht (hF _ rfl)⟩
theorem LaneAt.behT (h : LaneAt w R way r g c) (ht : Turns F w w1) (hF : ∀ k, part R c 5 k → ¬ F k) : ∃ m, MapIs w1 c.B c.h m := h.beh.elim fun m h1 => ⟨m, h1.turn ht (hF _ rfl)⟩
theorem LaneAt.rowsT (h : LaneAt w R way r g c) (ht : Turns F w w1) {d : Nat} (hd : d < 7) (hF : ∀ k, part R c (d + 6) k → ¬ F k) : Tail w1 0 38 3 (c.bv (d : Int)) (r.behind (d : Int)).length (flat (r.behind (d : Int))) :=
  (h.rows d hd).same fun k hk => ht.block k ((h.rows d hd).lt k hk).2 (hF k hk)
theorem LaneAt.turn (h : LaneAt w R way r g c) (ht : Turns F w w1) (hF : ∀ k, feet R c k → ¬ F k) : LaneAt w1 R way r g c :=
  have hp : ∀ i, i < 13 → ∀ k, part R c i k → ¬ F k := fun i hi k hk => hF k ⟨i, hi, hk⟩
  ⟨h.blkT ht (hp 0 (by omega)), h.tabT ht (hp 1 (by omega)), h.toldT ht (hp 2 (by omega)), h.outsT ht (hp 3 (by omega)), h.wtsT ht (hp 4 (by omega)), h.behT ht (hp 5 (by omega)), fun d hd => h.rowsT ht hd (hp (d + 6) (by omega)), h.apart⟩
theorem LaneAt.below (h : LaneAt w R way r g c) (hb : Below w.heap.size w w1) : LaneAt w1 R way r g c := h.turn (Turns.of_below (F := fun _ => False) hb) fun _ _ hf => hf
theorem LaneAt.congr (h : LaneAt w R way r g c) (e : ∀ d, g1 d = g d) : LaneAt w R way r g1 c := by
  obtain rfl : g1 = g := funext e
  exact h
/-- A step of it: what it is then, and what has turned. -/
def LaneStep (w w' : World) (R : Nat) (way : Int) (c : Lay) (r' : Runr) (g' : Int → Option Value) : Prop := ∃ c', LaneAt w' R way r' g' c' ∧ Turns (feet R c) w w' ∧ ∀ k, feet R c' k → feet R c k ∨ w.heap.size ≤ k
/-- Some parts have turned, one of them lies otherwise. -/
theorem LaneAt.change (h : LaneAt w R way r g c) (m : Nat) (ht : Turns (ofs R c J) w w1) (hsame : ∀ i, i < 13 → i ≠ m → ∀ k, part R c1 i k → part R c i k) (hm : ∀ k, part R c1 m k → part R c m k ∨ w.heap.size ≤ k) (hm13 : m < 13)
    (blk : w1.heap[R]? = some (.cells (laneCells way c1) 54 (0, 0))) (tab : PTab w1 c1.T c1.F r1.tab) (told : w1.ownsRow 0 38 3 c1.tv r1.told.length (flat r1.told)) (outs : MapIs w1 c1.A (victF r1.vict) r1.vict.length)
    (wts : ∃ m, MapIs w1 c1.W g1 m) (beh : ∃ m, MapIs w1 c1.B c1.h m) (rows : ∀ d : Nat, d < 7 → Tail w1 0 38 3 (c1.bv (d : Int)) (r1.behind (d : Int)).length (flat (r1.behind (d : Int)))) : LaneStep w w1 R way c r1 g1 := by
  have hp : ∀ i k, i < 13 → part R c1 i k → part R c i k ∨ (i = m ∧ w.heap.size ≤ k) := fun i k hi hk => by
    by_cases e : i = m
    · subst e
      rcases hm k hk with h1 | h1
      · exact .inl h1
      · exact .inr ⟨rfl, h1⟩
    · exact .inl (hsame i hi e k hk)
  refine ⟨c1, ⟨blk, tab, told, outs, wts, beh, rows, fun i j k hi hj hij h1 h2 => ?_⟩, ht.mono fun k _ ⟨i, hi, _, hk⟩ => ⟨i, hi, hk⟩, fun k ⟨i, hi, hk⟩ => ?_⟩
  · rcases hp i k hi h1 with h3 | ⟨h3, h4⟩
    · rcases hp j k hj h2 with h5 | ⟨h5, h6⟩
      · exact h.apart i j k hi hj hij h3 h5
      · have := h.part_lt i k hi h3; omega
    · rcases hp j k hj h2 with h5 | ⟨h5, h6⟩
      · have := h.part_lt j k hj h5; omega
      · exact hij (h3.trans h5.symm)
  · rcases hp i k hi hk with h3 | ⟨_, h3⟩
    · exact .inl ⟨i, hi, h3⟩
    · exact .inr h3
theorem LaneStep.same (h : LaneAt w R way r g c) (hb : Below w.heap.size w w1) : LaneStep w w1 R way c r g := ⟨c, h.below hb, Turns.of_below hb, fun _ hk => .inl hk⟩
theorem LaneStep.trans {w2 : World} {r2 : Runr} {g2 : Int → Option Value} (ht : Turns (feet R c) w w1) (hf : ∀ k, feet R c1 k → feet R c k ∨ w.heap.size ≤ k) (h2 : LaneStep w1 w2 R way c1 r2 g2) : LaneStep w w2 R way c r2 g2 := by
  obtain ⟨c2, h3, h4, h5⟩ := h2
  refine ⟨c2, h3, ht.trans h4 fun k hk hk2 => ?_, fun k hk => ?_⟩
  · rcases hf k hk2 with h | h
    · exact h
    · omega
  · rcases h5 k hk with h | h
    · exact hf k h
    · exact .inr (Nat.le_trans ht.size h)
theorem LaneStep.later {w2 : World} {r2 : Runr} {g2 : Int → Option Value} (hb : Below w.heap.size w w1) (h2 : LaneStep w1 w2 R way c r2 g2) : LaneStep w w2 R way c r2 g2 := LaneStep.trans (Turns.of_below hb) (fun _ hk => .inl hk) h2
theorem LaneStep.then_below {w2 : World} (h : LaneStep w w1 R way c r1 g1) (hb : Below w1.heap.size w1 w2) : LaneStep w w2 R way c r1 g1 := by
  obtain ⟨c', h1, h2, h3⟩ := h
  exact ⟨c', h1.below hb, h2.then_below hb, h3⟩
theorem LaneStep.congr {g2 : Int → Option Value} (h : LaneStep w w1 R way c r1 g1) (e : ∀ d, g2 d = g1 d) : LaneStep w w1 R way c r1 g2 := by
  obtain rfl : g2 = g1 := funext e
  exact h
/-- A part and the run's own block have turned. -/
theorem two_turn {i : Nat} (hi : i < 13) (h : Turns (fun k => part R c i k) w w1) (u : Value) (q : Nat) : Turns (ofs R c fun j => j = 0 ∨ j = i) w (w1.setCell ⟨R, q, none⟩ u) :=
  (h.mono fun k _ hk => ⟨i, hi, .inr rfl, hk⟩).setCell (.inl ⟨0, by omega, .inl rfl, rfl⟩) u
theorem one_turn {i : Nat} (hi : i < 13) (h : Turns (fun k => part R c i k) w w1) : Turns (ofs R c fun j => j = i) w w1 := h.mono fun _ _ hk => ⟨i, hi, rfl, hk⟩
/-- Something more is told. -/
theorem LaneAt.pushTold {v : Value} {x : Op3} (h : LaneAt w R way r g c) (ht : Turns (fun k => c.tv.ownBlock = some k) w w1) (hv : w1.ownsRow 0 38 3 v (r.told.length + 1) (flat r.told ++ flat [x])) (hap : ∀ q, v.ownBlock = some q → c.tv.ownBlock = some q ∨ w.heap.size ≤ q) :
    w1.cell? ⟨R, 2, none⟩ = some c.tv ∧ w1.frozen? ⟨R, 2, none⟩ = false ∧ LaneStep w (w1.setCell ⟨R, 2, none⟩ v) R way c { r with told := r.told ++ [x] } g := by
  have hn : ¬ c.tv.ownBlock = some R := fun e => h.apart 0 2 R (by omega) (by omega) (by decide) rfl e
  have hb1 : w1.heap[R]? = some (.cells (laneCells way c) 54 (0, 0)) := (ht.block R h.lt hn).trans h.blk
  refine ⟨by rw [cell_of_row w1 R _ _ _ _ hb1]; rfl, by simp [World.frozen?, hb1], ?_⟩
  have ht2 : Turns (ofs R c fun j => j = 0 ∨ j = 2) w (w1.setCell ⟨R, 2, none⟩ v) := two_turn (i := 2) (by omega) ht v 2
  have hR : ¬ v.ownBlock = some R := fun e => by
    rcases hap R e with h1 | h1
    · exact hn h1
    · have := h.lt; omega
  refine h.change (c1 := { c with tv := v }) 2 ht2 (fun i hi hne k hk => ?_) (fun k hk => hap k hk) (by omega) ?_ (h.tabT ht2 (h.keep (by omega) (by omega))) ?_ (h.outsT ht2 (h.keep (by omega) (by omega))) (h.wtsT ht2 (h.keep (by omega) (by omega))) (h.behT ht2 (h.keep (by omega) (by omega))) fun d hd => h.rowsT ht2 hd (h.keep (by omega) (by omega))
  · match i, hne, hk with
    | 0, _, hk => exact hk
    | 1, _, hk => exact hk
    | 2, hne, _ => exact absurd rfl hne
    | 3, _, hk => exact hk
    | 4, _, hk => exact hk
    | 5, _, hk => exact hk
    | d + 6, _, hk => exact hk
  · rw [block_set hb1]; rfl
  · show World.ownsRow _ _ _ _ v (r.told ++ [x]).length (flat (r.told ++ [x]))
    rw [List.length_append, flat_append]
    have hset : Turns (fun k => k = R) w1 (w1.setCell ⟨R, 2, none⟩ v) := by
      refine Turns.setCell (Turns.refl _ w1) ?_ _
      exact .inl rfl
    exact hset.own hv fun q hq e => hR (e ▸ hq)
/-- A call on its table. -/
theorem LaneAt.setTab {F1 : Nat → Prop} {s1 : Tab2} (h : LaneAt w R way r g c) (hp : PTab w1 c.T F1 s1) (ht : Turns c.F w w1) (hf : ∀ k, F1 k → c.F k ∨ w.heap.size ≤ k) : LaneStep w w1 R way c { r with tab := s1 } g := by
  have ht2 : Turns (ofs R c fun j => j = 1) w w1 := one_turn (i := 1) (by omega) ht
  exact h.change (c1 := { c with F := F1 }) 1 ht2 (fun i hi hne k hk => by
    match i, hne, hk with
    | 0, _, hk => exact hk
    | 1, hne, _ => exact absurd rfl hne
    | 2, _, hk => exact hk
    | 3, _, hk => exact hk
    | 4, _, hk => exact hk
    | 5, _, hk => exact hk
    | d + 6, _, hk => exact hk) hf (by omega) (h.blkT ht2 (h.keep (by omega) (by omega))) hp (h.toldT ht2 (h.keep (by omega) (by omega))) (h.outsT ht2 (h.keep (by omega) (by omega))) (h.wtsT ht2 (h.keep (by omega) (by omega))) (h.behT ht2 (h.keep (by omega) (by omega))) fun d hd => h.rowsT ht2 hd (h.keep (by omega) (by omega))
/-- One more is aborted. -/
theorem LaneAt.setOuts {l : List Int} (h : LaneAt w R way r g c) (hp : MapIs w1 c.A (victF l) l.length) (ht : Turns (fun k => k = c.A) w w1) : LaneStep w w1 R way c { r with vict := l } g := by
  have ht2 : Turns (ofs R c fun j => j = 3) w w1 := one_turn (i := 3) (by omega) ht
  exact h.change (c1 := c) 3 ht2 (fun i hi hne k hk => hk) (fun k hk => .inl hk) (by omega) (h.blkT ht2 (h.keep (by omega) (by omega))) (h.tabT ht2 (h.keep (by omega) (by omega))) (h.toldT ht2 (h.keep (by omega) (by omega))) hp (h.wtsT ht2 (h.keep (by omega) (by omega))) (h.behT ht2 (h.keep (by omega) (by omega))) fun d hd => h.rowsT ht2 hd (h.keep (by omega) (by omega))
/-- Others wait. -/
theorem LaneAt.setWts {m : Nat} (h : LaneAt w R way r g c) (hp : MapIs w1 c.W g1 m) (ht : Turns (fun k => k = c.W) w w1) : LaneStep w w1 R way c r g1 := by
  have ht2 : Turns (ofs R c fun j => j = 4) w w1 := one_turn (i := 4) (by omega) ht
  exact h.change (c1 := c) 4 ht2 (fun i hi hne k hk => hk) (fun k hk => .inl hk) (by omega) (h.blkT ht2 (h.keep (by omega) (by omega))) (h.tabT ht2 (h.keep (by omega) (by omega))) (h.toldT ht2 (h.keep (by omega) (by omega))) (h.outsT ht2 (h.keep (by omega) (by omega))) ⟨m, hp⟩ (h.behT ht2 (h.keep (by omega) (by omega))) fun d hd => h.rowsT ht2 hd (h.keep (by omega) (by omega))
theorem bv_same (c : Lay) (d : Int) (x : Option Value) : ({ c with h := setF c.h d x } : Lay).bv d = x.getD (.slice none 0 0) := by show (setF c.h d x d).getD _ = _; rw [setF_same]
theorem bv_other (c : Lay) {d e : Int} (x : Option Value) (hne : e ≠ d) : ({ c with h := setF c.h d x } : Lay).bv e = c.bv e := by show (setF c.h d x e).getD _ = _; rw [setF_other _ _ hne]; rfl
/-- What stands behind one is another list, in the map of those. w0: its row has turned; w1: the map has. -/
theorem LaneAt.setBeh {w0 : World} {m d : Nat} {x : Option Value} {q : List Op3} (hd : d < 7) (h : LaneAt w R way r g c) (ht0 : Turns (fun k => (c.bv (d : Int)).ownBlock = some k) w w0) (hp : MapIs w1 c.B (setF c.h (d : Int) x) m) (ht : Turns (fun k => k = c.B) w0 w1)
    (hv : Tail w0 0 38 3 (x.getD (.slice none 0 0)) q.length (flat q)) (hap : ∀ k, (x.getD (.slice none 0 0)).ownBlock = some k → (c.bv (d : Int)).ownBlock = some k ∨ w.heap.size ≤ k) : LaneStep w w1 R way c { r with behind := setF r.behind (d : Int) q } g := by
  have ht2 : Turns (ofs R c fun j => j = 5 ∨ j = d + 6) w w1 := (ht0.mono fun k _ hk => ⟨d + 6, by omega, .inr rfl, hk⟩).trans ht fun k _ hk => ⟨5, by omega, .inl rfl, hk⟩
  have hB : ∀ k, (x.getD (.slice none 0 0)).ownBlock = some k → k ≠ c.B := fun k hk e => by
    rcases hap k hk with h1 | h1
    · exact h.apart (d + 6) 5 k (by omega) (by omega) (by omega) h1 e
    · have := h.beh.elim fun _ h => h.lt
      omega
  refine h.change (c1 := { c with h := setF c.h (d : Int) x }) (d + 6) ht2 (fun i hi hne k hk => ?_) (fun k hk => ?_) (by omega) (h.blkT ht2 (h.keep (by omega) (by omega))) (h.tabT ht2 (h.keep (by omega) (by omega))) (h.toldT ht2 (h.keep (by omega) (by omega))) (h.outsT ht2 (h.keep (by omega) (by omega))) (h.wtsT ht2 (h.keep (by omega) (by omega))) ⟨m, hp⟩ fun e he => ?_
  · match i, hne, hk with
    | 0, _, hk => exact hk
    | 1, _, hk => exact hk
    | 2, _, hk => exact hk
    | 3, _, hk => exact hk
    | 4, _, hk => exact hk
    | 5, _, hk => exact hk
    | e + 6, hne, hk =>
      have hk' : (Lay.bv { c with h := setF c.h (d : Int) x } (e : Int)).ownBlock = some k := hk
      rw [bv_other c x (by omega)] at hk'
      exact hk'
  · have hk' : (Lay.bv { c with h := setF c.h (d : Int) x } (d : Int)).ownBlock = some k := hk
    rw [bv_same] at hk'
    exact hap k hk'
  · by_cases e1 : e = d
    · subst e1
      show Tail w1 0 _ 3 _ (setF r.behind (e : Int) q (e : Int)).length (flat (setF r.behind (e : Int) q (e : Int)))
      rw [bv_same, setF_same]
      exact hv.same fun k hk => ht.block k (hv.lt k hk).2 (hB k hk)
    · show Tail w1 0 _ 3 _ (setF r.behind (d : Int) q (e : Int)).length (flat (setF r.behind (d : Int) q (e : Int)))
      rw [bv_other c x (by omega), setF_other _ _ (by omega)]
      exact h.rowsT ht2 he (h.keep (by omega) (by omega))
end
section
variable {w : World} {R : Nat} {way : Int} {r : Runr} {g : Int → Option Value} {c : Lay}
theorem LaneAt.cell (h : LaneAt w R way r g c) (k : Nat) : w.cell? ⟨R, k, none⟩ = (laneCells way c)[k]? := by rw [cell_of_row w R _ _ _ _ h.blk]
theorem LaneAt.c0 (h : LaneAt w R way r g c) : w.cell? ⟨R, 0, none⟩ = some (.int .i64 way) := h.cell 0
theorem LaneAt.c1 (h : LaneAt w R way r g c) : w.cell? ⟨R, 1, none⟩ = some (.pointer (some ⟨c.T, 0, none⟩)) := h.cell 1
theorem LaneAt.c2 (h : LaneAt w R way r g c) : w.cell? ⟨R, 2, none⟩ = some c.tv := h.cell 2
theorem LaneAt.c3 (h : LaneAt w R way r g c) : w.cell? ⟨R, 3, none⟩ = some (.map (some c.A)) := h.cell 3
theorem LaneAt.c4 (h : LaneAt w R way r g c) : w.cell? ⟨R, 4, none⟩ = some (.map (some c.W)) := h.cell 4
theorem LaneAt.c5 (h : LaneAt w R way r g c) : w.cell? ⟨R, 5, none⟩ = some (.map (some c.B)) := h.cell 5
theorem LaneAt.thaw (h : LaneAt w R way r g c) (k : Nat) : w.frozen? ⟨R, k, none⟩ = false := by simp [World.frozen?, h.blk]
end
theorem freeU_ok2 {s : Tab2} (h : TabOk s) (t : Int) : TabOk (freeU s t).2 := by
  unfold freeU
  split
  · exact free_ok h t
  · exact h
/-- Free, on a table, and where those that come to be held lie. -/
theorem pTab_free (w : World) (T : Nat) (F : Nat → Prop) (s : Tab2) (t : Int) (h : PTab w T F s) (hl1 : s.1.length ≤ 400) (hl2 : s.2.length ≤ 400) :
    Calls Tryz.prog 71 #[.pointer (some ⟨T, 0, none⟩), .int .i64 t] w fun e w' => ∃ v', e = .returned (.tuple #[v', errV (freeU s t).1.2]) ∧ w'.ownsRow w.heap.size 99 3 v' (freeU s t).1.1.length (flat (freeU s t).1.1) ∧ ∃ F', PTab w' T F' (freeU s t).2 ∧ Turns F w w' ∧ (∀ k, F' k → F k ∨ w.heap.size ≤ k) ∧ ∀ q, v'.ownBlock = some q → ¬ F' q := by
  obtain ⟨hok, hv, wv, h1, h2⟩ := h
  refine (pFree_row T _ hv wv s t w h1 hl1 hl2 hok.locks.1 hok.locks.2).mono fun _ _ ⟨v', he, hr, hv', wv', hso, ht, htu, hf⟩ => ⟨v', he, hr, foot T hv' wv', ⟨freeU_ok2 hok t, hv', wv', ht, fun _ => Iff.rfl⟩, htu.mono fun k _ hk => (h2 k).2 hk, fun k hk => ?_, hso⟩
  rcases hf k hk with h3 | h3
  · exact .inl ((h2 k).2 h3)
  · exact .inr h3
/-- For, on a table, in a row of its own. -/
theorem pTab_for (w : World) (T : Nat) (F : Nat → Prop) (s : Tab2) (x : Op3) (h : PTab w T F s) (hl1 : s.1.length ≤ 400) (hl2 : s.2.length ≤ 400) :
    Calls Tryz.prog 105 #[.pointer (some ⟨T, 0, none⟩), lkV x] w fun e w' => ∃ v', e = .returned (.tuple #[v', errV (forU s x).2]) ∧ OwnI w' w.heap.size v' (forU s x).1 ∧ Below w.heap.size w w' := by
  obtain ⟨hok, hv, wv, h1, h2⟩ := h
  exact pFor_own T _ hv wv s x w h1 (by omega) (by omega) hok.locks.1 hok.locks.2
end Go.Proofs.YtmjjiehnjghndaaGreat

namespace Go.Proofs.YtmjjiehnjghndaaGreat
open Go.RowKit

theorem hid_l {p : Prop} (h : p) : Hid p := h
theorem zero_int (w : World) : (zeroValue 3).run Tryz.prog w = .ok (.int .i64 0) w := by kernel_rfl
theorem zero_lk (w : World) : (zeroValue 99).run Tryz.prog w = .ok (.agg #[.int .i64 0, .int .i64 0, .int .i64 0]) w := by kernel_rfl
theorem zero_ops (w : World) : (zeroValue 22).run Tryz.prog w = .ok (.slice none 0 0) w := by kernel_rfl
theorem infoOpL : (Tryz.prog.info? 38).map (fun i => (i.zero, i.size, i.bytes)) = some (some (.agg #[.int .i64 0, .int .i64 0, .int .i64 0]), 3, 24) := by kernel_rfl
/-- The map of those that wait. -/
def wm (r : Runr) (P : Int → Option Op3) (d : Int) : Option Value := if r.waits d = true ∧ P d = none then some (lockV (lkOf (r.op d))) else none
section
variable {w w1 w2 W : World} {R n q : Nat} {way : Int} {r : Runr} {g : Int → Option Value} {c : Lay} {ob : Obj} {ad : Option Addr} {v2 : Value}
/-- An append to what is told, in a region that draws. -/
theorem LaneAt.tellD {x : Op3} (h : LaneAt W R way r g c) (e : c.tv = .slice ad n q) (hn : r.told.length = n) (hown : w2.ownsRow 0 38 3 v2 (n + 1) (flat r.told ++ flat [x])) (hgr : (W.drew.alloc ob).grownBy w2 (Value.slice ad n q).ownBlock) (hap : ∀ k, v2.ownBlock = some k → (Value.slice ad n q).ownBlock = some k ∨ (W.drew.alloc ob).heap.size ≤ k) :
    w2.cell? ⟨R, 2, none⟩ = some (.slice ad n q) ∧ w2.frozen? ⟨R, 2, none⟩ = false ∧ LaneStep W (w2.setCell ⟨R, 2, none⟩ v2) R way c { r with told := r.told ++ [x] } g := by
  have htu : Turns (fun k => c.tv.ownBlock = some k) W w2 := by rw [e]; exact turn_grown hgr
  rw [← e]
  exact h.pushTold htu (by rw [hn]; exact hown) fun k hk => by
    rcases apart_later hap k hk with h1 | h1
    · exact .inl (by rw [e]; exact h1)
    · exact .inr h1
end
set_option maxHeartbeats 4000000 in
set_option maxRecDepth 100000 in
theorem tell_run {R : Nat} {way : Int} {r : Runr} {g : Int → Option Value} {c : Lay} (x : Op3) {w : World} (h : LaneAt w R way r g c) (hl : r.told.length ≤ 47) :
    Calls Tryz.prog 55 #[.pointer (some ⟨R, 0, none⟩), lockV x] w fun e w' => e = .returned (.tuple #[]) ∧ LaneStep w w' R way c { r with told := r.told ++ [x] } g := by
  obtain ⟨t, a, i⟩ := x
  obtain ⟨i0, hi, hz0, hs0, hy0⟩ := info_parts infoOpL
  have HI : Hid (Tryz.prog.info? 38 = some i0 ∧ i0.zero = some (.agg #[.int .i64 0, .int .i64 0, .int .i64 0]) ∧ i0.size = 3 ∧ i0.bytes = 24) := ⟨hi, hz0, hs0, hy0⟩
  have HL := hid_l h
  clear hi hz0 hs0 hy0
  go_enter Tryz.func55, Tryz.ntmps55
  go_upto_region 1 with (fail)
  obtain ⟨W, hW⟩ : ∃ W, W = w.alloc (.cells #[.int .i64 t, .int .i64 a, .int .i64 i] 38) := ⟨_, rfl⟩
  rw [← hW]
  have hbW : Below w.heap.size w W := by rw [hW]; exact (Below.refl _ w).alloc (Nat.le_refl _) _
  have p0 : W.cell? ⟨w.heap.size, 0, none⟩ = some (.int .i64 t) := by rw [hW]; simp
  have p1 : W.cell? ⟨w.heap.size, 1, none⟩ = some (.int .i64 a) := by rw [hW]; simp
  have p2 : W.cell? ⟨w.heap.size, 2, none⟩ = some (.int .i64 i) := by rw [hW]; simp
  obtain ⟨P, hP⟩ : ∃ P, P = w.heap.size := ⟨_, rfl⟩
  rw [← hP] at p0 p1 p2 ⊢
  have hLW := h.below hbW
  have HLW := hid_l hLW
  have HBW := hid_l hbW
  obtain ⟨ad5, c5, e5, -⟩ := own_slice3 hLW.told
  obtain ⟨n5, hn5⟩ : ∃ n, r.told.length = n := ⟨_, rfl⟩
  rw [hn5] at e5 hl
  have c2 := hLW.c2
  rw [e5] at c2
  have hRW := hLW.lt
  have HV : Hid (W.ownsRow 0 38 3 (.slice ad5 n5 c5) n5 (flat r.told)) := by show World.ownsRow _ _ _ _ _ _ _; have := hLW.told; rw [e5, hn5] at this; exact this
  have HPT : Hid (∀ v2 w2 (ob : Obj), w2.ownsRow 0 38 3 v2 (n5 + 1) (flat r.told ++ flat [(t, a, i)]) → (W.drew.alloc ob).grownBy w2 (Value.slice ad5 n5 c5).ownBlock → (∀ k, v2.ownBlock = some k → (Value.slice ad5 n5 c5).ownBlock = some k ∨ (W.drew.alloc ob).heap.size ≤ k) → w2.cell? ⟨R, 2, none⟩ = some (.slice ad5 n5 c5) ∧ w2.frozen? ⟨R, 2, none⟩ = false ∧ LaneStep W (w2.setCell ⟨R, 2, none⟩ v2) R way c { r with told := r.told ++ [(t, a, i)] } g) := fun v2 w2 ob h1 h2 h3 => HLW.out.tellD e5 hn5 h1 h2 h3
  have hc2 : ∀ ob : Obj, (W.alloc ob).cell? ⟨R, 2, none⟩ = some (.slice ad5 n5 c5) := fun ob => by rw [World.cell?_alloc_lt _ _ ⟨R, 2, none⟩ hRW]; exact c2
  have hPW : P < W.heap.size := World.block_lt_of_cell? W _ p0
  clear hW hbW hP hLW e5 hn5 h
  go_region_law (refine step_append_apart rfl (.tmp 8) (.tmp 10) 22 rfl 0 38 i0 (.agg #[.int .i64 0, .int .i64 0, .int .i64 0]) 3 24 Tryz.underlying22 HI.out.1 HI.out.2.1 HI.out.2.2.1 HI.out.2.2.2 rfl (by decide) (.slice ad5 n5 c5) n5 (flat r.told) (by simp [Act.eval]) (HV.out.alloc _) ⟨W.heap.size, 0, none⟩ 1 1 (flat [(t, a, i)]) (by simp [Act.eval]) rfl (lock_new W (t, a, i) _) (flat_one _) (by unfold maxLen; omega) (by omega) (Nat.zero_le _) ?_; intro v2 w2 hown2 hgr2 hap2; obtain ⟨g0, g1, g2⟩ := HPT.out v2 w2 _ hown2 hgr2 hap2; clear hap2 hgr2; obtain ⟨ad6, c6, rfl, -⟩ := own_slice3 hown2; have HK2 := hid_l g2; clear g2 hown2)
  all_goals
    go_wp2_with fail
    go_end0
    exact ⟨rfl, LaneStep.later HBW.out HK2.out⟩
theorem isAborted_run {R : Nat} {way : Int} {r : Runr} {g : Int → Option Value} {c : Lay} {w : World} (h : LaneAt w R way r g c) {d : Int} (hd : Wf d) :
    Calls Tryz.prog 36 #[.pointer (some ⟨R, 0, none⟩), .int .i64 d] w fun e w' => e = .returned (.bool (decide (d ∈ r.vict))) ∧ w' = w := by
  have c3 := h.c3
  have HM := hid_l h.outs
  have HV := hid_l (victF_some r.vict d)
  clear h
  go_enter Tryz.func36, Tryz.ntmps36
  go_wp2_with (at_lookup; refine wp_look _ rfl (.tmp 11) (.tmp 12) 50 true rfl 3 Tryz.underlying50 (.int .i64 0) (zero_int _) c.A r.vict.length (victF r.vict) rfl HM.out d rfl hd _ _ rfl HV.out ?_)
  go_ret
  exact ⟨rfl, rfl⟩
/-- What is held in it are locks. -/
def LockG (g : Int → Option Value) : Prop := ∀ d, ∃ x : Op3, (g d).getD (.agg #[.int .i64 0, .int .i64 0, .int .i64 0]) = lockV x
theorem wm_lock (r : Runr) (P : Int → Option Op3) : LockG (wm r P) := fun d => by
  unfold wm
  split
  · exact ⟨_, rfl⟩
  · exact ⟨(0, 0, 0), rfl⟩
theorem isWaiting_run {R : Nat} {way : Int} {r : Runr} {g : Int → Option Value} {c : Lay} {w : World} (h : LaneAt w R way r g c) (hg : LockG g) {d : Int} (hd : Wf d) :
    Calls Tryz.prog 37 #[.pointer (some ⟨R, 0, none⟩), .int .i64 d] w fun e w' => e = .returned (.bool (g d).isSome) ∧ Below w.heap.size w w' := by
  have c4 := h.c4
  obtain ⟨m, hm⟩ := h.wts
  have HM := hid_l hm
  obtain ⟨⟨x, y, z⟩, hx⟩ := hg d
  have HX := hid_l hx
  obtain ⟨b, hb⟩ : ∃ b, (g d).isSome = b := ⟨_, rfl⟩
  rw [hb]
  clear h hg hm hx
  go_enter Tryz.func37, Tryz.ntmps37
  go_wp2_with (at_lookup; refine wp_look _ rfl (.tmp 11) (.tmp 12) 51 true rfl 99 Tryz.underlying51 (.agg #[.int .i64 0, .int .i64 0, .int .i64 0]) (zero_lk _) c.W m g rfl HM.out d rfl hd (.agg #[.int .i64 x, .int .i64 y, .int .i64 z]) b HX.out hb ?_)
  go_ret
  exact ⟨rfl, (Below.refl _ w).alloc (Nat.le_refl _) _⟩
theorem lockOf_run (o : Op3) (ho : o.2.1 = 1 ∨ o.2.1 = 2) (w : World) : Calls Tryz.prog 57 #[lockV o] w fun e w' => e = .returned (lockV (lkOf o)) ∧ Below w.heap.size w w' := by
  obtain ⟨t, a, i⟩ := o
  have hb : ∀ A B : Obj, Below w.heap.size w ((w.alloc A).alloc B) := fun A B => ((Below.refl _ w).alloc (Nat.le_refl _) A).alloc (by simp) B
  rcases ho with rfl | rfl
  · go_enter Tryz.func57, Tryz.ntmps57
    go_wp2_with fail
    refine bodyPost_ret (v := .agg #[.int .i64 t, .int .i64 i, .int .i64 1]) (by simp [results, Tryz.results57, go_sem]) rfl ⟨rfl, ?_⟩
    exact hb _ _
  · go_enter Tryz.func57, Tryz.ntmps57
    go_wp2_with fail
    refine bodyPost_ret (v := .agg #[.int .i64 t, .int .i64 i, .int .i64 2]) (by simp [results, Tryz.results57, go_sem]) rfl ⟨rfl, ?_⟩
    exact hb _ _
theorem opOf_run (o : Op3) (ho : o.2.2 = 1 ∨ o.2.2 = 2) (w : World) : Calls Tryz.prog 72 #[lockV o] w fun e w' => e = .returned (lockV (lkOf o)) ∧ Below w.heap.size w w' := by
  obtain ⟨t, i, a⟩ := o
  have hb : ∀ A B : Obj, Below w.heap.size w ((w.alloc A).alloc B) := fun A B => ((Below.refl _ w).alloc (Nat.le_refl _) A).alloc (by simp) B
  rcases ho with rfl | rfl
  · go_enter Tryz.func72, Tryz.ntmps72
    go_wp2_with fail
    refine bodyPost_ret (v := .agg #[.int .i64 t, .int .i64 1, .int .i64 i]) (by simp [results, Tryz.results72, go_sem]) rfl ⟨rfl, ?_⟩
    exact hb _ _
  · go_enter Tryz.func72, Tryz.ntmps72
    go_wp2_with fail
    refine bodyPost_ret (v := .agg #[.int .i64 t, .int .i64 2, .int .i64 i]) (by simp [results, Tryz.results72, go_sem]) rfl ⟨rfl, ?_⟩
    exact hb _ _
theorem forU_lock {s : Tab2} {x : Op3} (h : isLock x = true) : forU s x = (forT s x, 0) := by unfold forU; rw [if_pos h]
set_option maxHeartbeats 4000000 in
set_option maxRecDepth 100000 in
theorem waitsFor_run {R : Nat} {way : Int} {r : Runr} {P : Int → Option Op3} {c : Lay} {w : World} (h : LaneAt w R way r (wm r P) c) (hf : Fits r P) {d : Int} (hd : Wf d) (hl1 : r.tab.1.length ≤ 400) (hl2 : r.tab.2.length ≤ 400) :
    Calls Tryz.prog 84 #[.pointer (some ⟨R, 0, none⟩), .int .i64 d] w fun e w' => ∃ v, e = .returned v ∧ OwnI w' w.heap.size v (whomR r.tab d) ∧ Below w.heap.size w w' := by
  have c4 := h.c4
  have c1 := h.c1
  have hRl := h.lt
  obtain ⟨m, hm⟩ := h.wts
  have HM := hid_l hm
  have HL := hid_l h
  by_cases hw : r.waits d = true ∧ P d = none
  · have HX : Hid ((wm r P d).getD (.agg #[.int .i64 0, .int .i64 0, .int .i64 0]) = lockV (lkOf (r.op d)) ∧ (wm r P d).isSome = true) := by unfold wm; rw [if_pos hw]; exact ⟨rfl, rfl⟩
    have HW := hid_l (hf.whom_yes hw.1 hw.2)
    have HK := hid_l (hf.lock d hw.1).1
    obtain ⟨⟨x, y, z⟩, hx⟩ : ∃ x, lkOf (r.op d) = x := ⟨_, rfl⟩
    rw [hx] at HX HW HK
    have HT : Hid (∀ W, Below w.heap.size w W → Calls Tryz.prog 105 #[.pointer (some ⟨c.T, 0, none⟩), .agg #[.int .i64 x, .int .i64 y, .int .i64 z]] W fun e w' => ∃ ad n q, e = .returned (.tuple #[.slice ad n q, .nilIface]) ∧ OwnI w' w.heap.size (.slice ad n q) (whomR r.tab d) ∧ Below w.heap.size w w') := fun W hW => by
      refine (pTab_for W c.T c.F r.tab (x, y, z) (HL.out.below hW).tab hl1 hl2).mono ?_
      rintro e w' ⟨v', rfl, hi, hb⟩
      rw [forU_lock HK.out] at hi ⊢
      have hi2 := hi
      obtain ⟨ad, cap, rfl, -⟩ := own_slice3 hi
      exact ⟨ad, _, cap, rfl, by rw [HW.out]; exact hi2.less hW.size, hW.trans (hb.mono hW.size)⟩
    clear hw hx hf h hm
    go_enter Tryz.func84, Tryz.ntmps84
    go_wp2_with (at_lookup; refine wp_look _ rfl (.tmp 13) (.tmp 14) 51 true rfl 99 Tryz.underlying51 (.agg #[.int .i64 0, .int .i64 0, .int .i64 0]) (zero_lk _) c.W m (wm r P) rfl HM.out d rfl hd (.agg #[.int .i64 x, .int .i64 y, .int .i64 z]) true HX.out.1 HX.out.2 ?_)
    go_region_with (first | (go_at_call 105; refine (HT.out _ ?_).mono ?_; exact (((Below.refl _ w).alloc (Nat.le_refl _) _)).drew; rintro e w2 ⟨ad2, n2, q2, rfl, hi2, hb2⟩))
    all_goals
      go_wp2_with fail
      go_ret
      exact ⟨_, rfl, hi2, hb2⟩
  · have HX : Hid ((wm r P d).getD (.agg #[.int .i64 0, .int .i64 0, .int .i64 0]) = .agg #[.int .i64 0, .int .i64 0, .int .i64 0] ∧ (wm r P d).isSome = false) := by unfold wm; rw [if_neg hw]; exact ⟨rfl, rfl⟩
    have HW := hid_l (hf.whom_no hw)
    clear hw hf h hm
    go_enter Tryz.func84, Tryz.ntmps84
    go_wp2_with (at_lookup; refine wp_look _ rfl (.tmp 13) (.tmp 14) 51 true rfl 99 Tryz.underlying51 (.agg #[.int .i64 0, .int .i64 0, .int .i64 0]) (zero_lk _) c.W m (wm r P) rfl HM.out d rfl hd (.agg #[.int .i64 0, .int .i64 0, .int .i64 0]) false HX.out.1 HX.out.2 ?_)
    go_ret
    exact ⟨_, rfl, by rw [HW.out]; exact World.ownsRow_nil _ _ _ _, (Below.refl _ w).alloc (Nat.le_refl _) _⟩
end Go.Proofs.YtmjjiehnjghndaaGreat
