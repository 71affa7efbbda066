/-
  PROVED HERE: how a run of deals that keep locks (strict.lane: a way, a table, what is told, who is aborted, who waits for what, what stands behind) lies in memory: a block, a table, three maps and seven rows of its own, all apart; what becomes of it when one of its parts is set.
  Conditions: none.
  PROVED HERE: plain facts, with no word of the program: how the table, those that wait, those whose turn is not yet (they hold what they waited for, but nothing of it is told), and those that are aborted fit together while deals ask, as chapter 9 has them.
  Conditions: none.
-/
import Derived.Test.YtjaeaanpbdmfgaeGreatDoorMgbe
import Derived.Test.YtjaeaanpbdmfgaeGreatDoorLocksP0
import Derived.Test.YtjaeaanpbdmfgaeGreatDoorLockFree
import Derived.Test.YtjaeaanpbdmfgaeGreatDoorMgam
import Derived.Test.YtjaeaanpbdmfgaeGreatDoorMgaf
import Derived.Test.YtjaeaanpbdmfgaeGreatDoorMgax
import Derived.Test.YtjaeaanpbdmfgaeGreatDoorDoPlain
import Derived.Test.YtjaeaanpbdmfgaeGreatDoorMgaw
namespace Go.Proofs.YtjaeaanpbdmfgaeGreatDoor
open Go.RowKit

/-- Where the parts lie. -/
structure Lay where
  T : Nat
  A : Nat
  W : Nat
  B : Nat
  F : Nat → Prop
  tv : Value
  h : Int → Option Value
def Lay.bv (c : Lay) (d : Int) : Value := (c.h d).getD (.slice none 0 0)
def part (R : Nat) (c : Lay) (i k : Nat) : Prop :=
  match i with
  | 0 => k = R
  | 1 => c.F k
  | 2 => c.tv.ownBlock = some k
  | 3 => k = c.A
  | 4 => k = c.W
  | 5 => k = c.B
  | d + 6 => (c.bv (d : Int)).ownBlock = some k
def feet (R : Nat) (c : Lay) (k : Nat) : Prop := ∃ i, i < 13 ∧ part R c i k
def laneCells (way : Int) (c : Lay) : Array Value := #[.int .i64 way, .pointer (some ⟨c.T, 0, none⟩), c.tv, .map (some c.A), .map (some c.W), .map (some c.B)]
/-- A run in memory; g: the map of those that wait. -/
structure LaneAt (w : World) (R : Nat) (way : Int) (r : Runr) (g : Int → Option Value) (c : Lay) : Prop where
  blk : w.heap[R]? = some (.cells (laneCells way c) 59 (0, 0))
  tab : PTab w c.T c.F r.tab
  told : w.ownsRow 0 43 3 c.tv r.told.length (flat r.told)
  outs : MapIs w c.A (victF r.vict) r.vict.length
  wts : ∃ m, MapIs w c.W g m
  beh : ∃ m, MapIs w c.B c.h m
  rows : ∀ d : Nat, d < 7 → Tail w 0 43 3 (c.bv (d : Int)) (r.behind (d : Int)).length (flat (r.behind (d : Int)))
  apart : ∀ i j k, i < 13 → j < 13 → i ≠ j → part R c i k → part R c j k → False
/-- The blocks of some parts. -/
def ofs (R : Nat) (c : Lay) (J : Nat → Prop) (k : Nat) : Prop := ∃ i, i < 13 ∧ J i ∧ part R c i k
section
variable {w w1 : World} {R : Nat} {way : Int} {r r1 : Runr} {g g1 : Int → Option Value} {c c1 : Lay} {F J : Nat → Prop}
theorem LaneAt.part_lt (h : LaneAt w R way r g c) : ∀ i k, i < 13 → part R c i k → k < w.heap.size := by
  intro i k hi hk
  match i, hk with
  | 0, hk => rw [show k = R from hk]; exact (Array.getElem?_eq_some_iff.1 h.blk).1
  | 1, hk => exact locksQ.lt h.tab k hk
  | 2, hk => exact (h.told.lt k hk).2
  | 3, hk => rw [show k = c.A from hk]; exact h.outs.lt
  | 4, hk => rw [show k = c.W from hk]; exact h.wts.elim fun _ h => h.lt
  | 5, hk => rw [show k = c.B from hk]; exact h.beh.elim fun _ h => h.lt
  | d + 6, hk => exact ((h.rows d (by omega)).lt k hk).2
theorem LaneAt.lt (h : LaneAt w R way r g c) : R < w.heap.size := h.part_lt 0 R (by omega) rfl
theorem LaneAt.feet_lt (h : LaneAt w R way r g c) {k : Nat} (hk : feet R c k) : k < w.heap.size := by
  obtain ⟨i, hi, hk⟩ := hk
  exact h.part_lt i k hi hk
theorem LaneAt.keep (h : LaneAt w R way r g c) {i : Nat} (hi : i < 13) (hj : ¬ J i) : ∀ k, part R c i k → ¬ ofs R c J k := fun k hk ⟨j, hj1, hj2, hj3⟩ => h.apart i j k hi hj1 (fun e => hj (e ▸ hj2)) hk hj3
theorem LaneAt.blkT (h : LaneAt w R way r g c) (ht : Turns F w w1) (hF : ∀ k, part R c 0 k → ¬ F k) : w1.heap[R]? = some (.cells (laneCells way c) 59 (0, 0)) := (ht.block R h.lt (hF R rfl)).trans h.blk
theorem LaneAt.tabT (h : LaneAt w R way r g c) (ht : Turns F w w1) (hF : ∀ k, part R c 1 k → ¬ F k) : PTab w1 c.T c.F r.tab := locksQ.stays _ h.tab ht fun k hk => hF k hk
theorem LaneAt.toldT (h : LaneAt w R way r g c) (ht : Turns F w w1) (hF : ∀ k, part R c 2 k → ¬ F k) : w1.ownsRow 0 43 3 c.tv r.told.length (flat r.told) := ht.own h.told fun k hk => hF k hk
theorem LaneAt.outsT (h : LaneAt w R way r g c) (ht : Turns F w w1) (hF : ∀ k, part R c 3 k → ¬ F k) : MapIs w1 c.A (victF r.vict) r.vict.length := h.outs.turn ht (hF _ rfl)
theorem LaneAt.wtsT (h : LaneAt w R way r g c) (ht : Turns F w w1) (hF : ∀ k, part R c 4 k → ¬ F k) : ∃ m, MapIs w1 c.W g m := h.wts.elim fun m h1 => ⟨m, h1.turn ht (hF _ rfl)⟩
theorem LaneAt.behT (h : LaneAt w R way r g c) (ht : Turns F w w1) (hF : ∀ k, part R c 5 k → ¬ F k) : ∃ m, MapIs w1 c.B c.h m := h.beh.elim fun m h1 => ⟨m, h1.turn ht (hF _ rfl)⟩
theorem LaneAt.rowsT (h : LaneAt w R way r g c) (ht : Turns F w w1) {d : Nat} (hd : d < 7) (hF : ∀ k, part R c (d + 6) k → ¬ F k) : Tail w1 0 43 3 (c.bv (d : Int)) (r.behind (d : Int)).length (flat (r.behind (d : Int))) :=
  (h.rows d hd).same fun k hk => ht.block k ((h.rows d hd).lt k hk).2 (hF k hk)
theorem LaneAt.turn (h : LaneAt w R way r g c) (ht : Turns F w w1) (hF : ∀ k, feet R c k → ¬ F k) : LaneAt w1 R way r g c :=
  have hp : ∀ i, i < 13 → ∀ k, part R c i k → ¬ F k := fun i hi k hk => hF k ⟨i, hi, hk⟩
  ⟨h.blkT ht (hp 0 (by omega)), h.tabT ht (hp 1 (by omega)), h.toldT ht (hp 2 (by omega)), h.outsT ht (hp 3 (by omega)), h.wtsT ht (hp 4 (by omega)), h.behT ht (hp 5 (by omega)), fun d hd => h.rowsT ht hd (hp (d + 6) (by omega)), h.apart⟩
theorem LaneAt.below (h : LaneAt w R way r g c) (hb : Below w.heap.size w w1) : LaneAt w1 R way r g c := h.turn (Turns.of_below (F := fun _ => False) hb) fun _ _ hf => hf
theorem LaneAt.congr (h : LaneAt w R way r g c) (e : ∀ d, g1 d = g d) : LaneAt w R way r g1 c := by
  obtain rfl : g1 = g := funext e
  exact h
/-- A step of it: what it is then, and what has turned. -/
def LaneStep (w w' : World) (R : Nat) (way : Int) (c : Lay) (r' : Runr) (g' : Int → Option Value) : Prop := ∃ c', LaneAt w' R way r' g' c' ∧ Turns (feet R c) w w' ∧ ∀ k, feet R c' k → feet R c k ∨ w.heap.size ≤ k
/-- Some parts have turned, one of them lies otherwise. -/
theorem LaneAt.change (h : LaneAt w R way r g c) (m : Nat) (ht : Turns (ofs R c J) w w1) (hsame : ∀ i, i < 13 → i ≠ m → ∀ k, part R c1 i k → part R c i k) (hm : ∀ k, part R c1 m k → part R c m k ∨ w.heap.size ≤ k) (hm13 : m < 13)
    (blk : w1.heap[R]? = some (.cells (laneCells way c1) 59 (0, 0))) (tab : PTab w1 c1.T c1.F r1.tab) (told : w1.ownsRow 0 43 3 c1.tv r1.told.length (flat r1.told)) (outs : MapIs w1 c1.A (victF r1.vict) r1.vict.length)
    (wts : ∃ m, MapIs w1 c1.W g1 m) (beh : ∃ m, MapIs w1 c1.B c1.h m) (rows : ∀ d : Nat, d < 7 → Tail w1 0 43 3 (c1.bv (d : Int)) (r1.behind (d : Int)).length (flat (r1.behind (d : Int)))) : LaneStep w w1 R way c r1 g1 := by
  have hp : ∀ i k, i < 13 → part R c1 i k → part R c i k ∨ (i = m ∧ w.heap.size ≤ k) := fun i k hi hk => by
    by_cases e : i = m
    · subst e
      rcases hm k hk with h1 | h1
      · exact .inl h1
      · exact .inr ⟨rfl, h1⟩
    · exact .inl (hsame i hi e k hk)
  refine ⟨c1, ⟨blk, tab, told, outs, wts, beh, rows, fun i j k hi hj hij h1 h2 => ?_⟩, ht.mono fun k _ ⟨i, hi, _, hk⟩ => ⟨i, hi, hk⟩, fun k ⟨i, hi, hk⟩ => ?_⟩
  · rcases hp i k hi h1 with h3 | ⟨h3, h4⟩
    · rcases hp j k hj h2 with h5 | ⟨h5, h6⟩
      · exact h.apart i j k hi hj hij h3 h5
      · have := h.part_lt i k hi h3; omega
    · rcases hp j k hj h2 with h5 | ⟨h5, h6⟩
      · have := h.part_lt j k hj h5; omega
      · exact hij (h3.trans h5.symm)
  · rcases hp i k hi hk with h3 | ⟨_, h3⟩
    · exact .inl ⟨i, hi, h3⟩
    · exact .inr h3
theorem LaneStep.same (h : LaneAt w R way r g c) (hb : Below w.heap.size w w1) : LaneStep w w1 R way c r g := ⟨c, h.below hb, Turns.of_below hb, fun _ hk => .inl hk⟩
theorem LaneStep.trans {w2 : World} {r2 : Runr} {g2 : Int → Option Value} (ht : Turns (feet R c) w w1) (hf : ∀ k, feet R c1 k → feet R c k ∨ w.heap.size ≤ k) (h2 : LaneStep w1 w2 R way c1 r2 g2) : LaneStep w w2 R way c r2 g2 := by
  obtain ⟨c2, h3, h4, h5⟩ := h2
  refine ⟨c2, h3, ht.trans h4 fun k hk hk2 => ?_, fun k hk => ?_⟩
  · rcases hf k hk2 with h | h
    · exact h
    · omega
  · rcases h5 k hk with h | h
    · exact hf k h
    · exact .inr (Nat.le_trans ht.size h)
theorem LaneStep.later {w2 : World} {r2 : Runr} {g2 : Int → Option Value} (hb : Below w.heap.size w w1) (h2 : LaneStep w1 w2 R way c r2 g2) : LaneStep w w2 R way c r2 g2 := LaneStep.trans (Turns.of_below hb) (fun _ hk => .inl hk) h2
theorem LaneStep.then_below {w2 : World} (h : LaneStep w w1 R way c r1 g1) (hb : Below w1.heap.size w1 w2) : LaneStep w w2 R way c r1 g1 := by
  obtain ⟨c', h1, h2, h3⟩ := h
  exact ⟨c', h1.below hb, h2.then_below hb, h3⟩
theorem LaneStep.congr {g2 : Int → Option Value} (h : LaneStep w w1 R way c r1 g1) (e : ∀ d, g2 d = g1 d) : LaneStep w w1 R way c r1 g2 := by
  obtain rfl : g2 = g1 := funext e
  exact h
/-- A part and the run's own block have turned. -/
theorem two_turn {i : Nat} (hi : i < 13) (h : Turns (fun k => part R c i k) w w1) (u : Value) (q : Nat) : Turns (ofs R c fun j => j = 0 ∨ j = i) w (w1.setCell ⟨R, q, none⟩ u) :=
  (h.mono fun k _ hk => ⟨i, hi, .inr rfl, hk⟩).setCell (.inl ⟨0, by omega, .inl rfl, rfl⟩) u
theorem one_turn {i : Nat} (hi : i < 13) (h : Turns (fun k => part R c i k) w w1) : Turns (ofs R c fun j => j = i) w w1 := h.mono fun _ _ hk => ⟨i, hi, rfl, hk⟩
/-- Something more is told. -/
theorem LaneAt.pushTold {v : Value} {x : Op3} (h : LaneAt w R way r g c) (ht : Turns (fun k => c.tv.ownBlock = some k) w w1) (hv : w1.ownsRow 0 43 3 v (r.told.length + 1) (flat r.told ++ flat [x])) (hap : ∀ q, v.ownBlock = some q → c.tv.ownBlock = some q ∨ w.heap.size ≤ q) :
    w1.cell? ⟨R, 2, none⟩ = some c.tv ∧ w1.frozen? ⟨R, 2, none⟩ = false ∧ LaneStep w (w1.setCell ⟨R, 2, none⟩ v) R way c { r with told := r.told ++ [x] } g := by
  have hn : ¬ c.tv.ownBlock = some R := fun e => h.apart 0 2 R (by omega) (by omega) (by decide) rfl e
  have hb1 : w1.heap[R]? = some (.cells (laneCells way c) 59 (0, 0)) := (ht.block R h.lt hn).trans h.blk
  refine ⟨by rw [cell_of_row w1 R _ _ _ _ hb1]; rfl, by simp [World.frozen?, hb1], ?_⟩
  have ht2 : Turns (ofs R c fun j => j = 0 ∨ j = 2) w (w1.setCell ⟨R, 2, none⟩ v) := two_turn (i := 2) (by omega) ht v 2
  have hR : ¬ v.ownBlock = some R := fun e => by
    rcases hap R e with h1 | h1
    · exact hn h1
    · have := h.lt; omega
  refine h.change (c1 := { c with tv := v }) 2 ht2 (fun i hi hne k hk => ?_) (fun k hk => hap k hk) (by omega) ?_ (h.tabT ht2 (h.keep (by omega) (by omega))) ?_ (h.outsT ht2 (h.keep (by omega) (by omega))) (h.wtsT ht2 (h.keep (by omega) (by omega))) (h.behT ht2 (h.keep (by omega) (by omega))) fun d hd => h.rowsT ht2 hd (h.keep (by omega) (by omega))
  · match i, hne, hk with
    | 0, _, hk => exact hk
    | 1, _, hk => exact hk
    | 2, hne, _ => exact absurd rfl hne
    | 3, _, hk => exact hk
    | 4, _, hk => exact hk
    | 5, _, hk => exact hk
    | d + 6, _, hk => exact hk
  · rw [block_set hb1]; rfl
  · show World.ownsRow _ _ _ _ v (r.told ++ [x]).length (flat (r.told ++ [x]))
    rw [List.length_append, flat_append]
    have hset : Turns (fun k => k = R) w1 (w1.setCell ⟨R, 2, none⟩ v) := by
      refine Turns.setCell (Turns.refl _ w1) ?_ _
      exact .inl rfl
    exact hset.own hv fun q hq e => hR (e ▸ hq)
/-- A call on its table. -/
theorem LaneAt.setTab {F1 : Nat → Prop} {s1 : Tab2} (h : LaneAt w R way r g c) (hp : PTab w1 c.T F1 s1) (ht : Turns c.F w w1) (hf : ∀ k, F1 k → c.F k ∨ w.heap.size ≤ k) : LaneStep w w1 R way c { r with tab := s1 } g := by
  have ht2 : Turns (ofs R c fun j => j = 1) w w1 := one_turn (i := 1) (by omega) ht
  exact h.change (c1 := { c with F := F1 }) 1 ht2 (fun i hi hne k hk => by
    match i, hne, hk with
    | 0, _, hk => exact hk
    | 1, hne, _ => exact absurd rfl hne
    | 2, _, hk => exact hk
    | 3, _, hk => exact hk
    | 4, _, hk => exact hk
    | 5, _, hk => exact hk
    | d + 6, _, hk => exact hk) hf (by omega) (h.blkT ht2 (h.keep (by omega) (by omega))) hp (h.toldT ht2 (h.keep (by omega) (by omega))) (h.outsT ht2 (h.keep (by omega) (by omega))) (h.wtsT ht2 (h.keep (by omega) (by omega))) (h.behT ht2 (h.keep (by omega) (by omega))) fun d hd => h.rowsT ht2 hd (h.keep (by omega) (by omega))
/-- One more is aborted. -/
theorem LaneAt.setOuts {l : List Int} (h : LaneAt w R way r g c) (hp : MapIs w1 c.A (victF l) l.length) (ht : Turns (fun k => k = c.A) w w1) : LaneStep w w1 R way c { r with vict := l } g := by
  have ht2 : Turns (ofs R c fun j => j = 3) w w1 := one_turn (i := 3) (by omega) ht
  exact h.change (c1 := c) 3 ht2 (fun i hi hne k hk => hk) (fun k hk => .inl hk) (by omega) (h.blkT ht2 (h.keep (by omega) (by omega))) (h.tabT ht2 (h.keep (by omega) (by omega))) (h.toldT ht2 (h.keep (by omega) (by omega))) hp (h.wtsT ht2 (h.keep (by omega) (by omega))) (h.behT ht2 (h.keep (by omega) (by omega))) fun d hd => h.rowsT ht2 hd (h.keep (by omega) (by omega))
/-- Others wait. -/
theorem LaneAt.setWts {m : Nat} (h : LaneAt w R way r g c) (hp : MapIs w1 c.W g1 m) (ht : Turns (fun k => k = c.W) w w1) : LaneStep w w1 R way c r g1 := by
  have ht2 : Turns (ofs R c fun j => j = 4) w w1 := one_turn (i := 4) (by omega) ht
  exact h.change (c1 := c) 4 ht2 (fun i hi hne k hk => hk) (fun k hk => .inl hk) (by omega) (h.blkT ht2 (h.keep (by omega) (by omega))) (h.tabT ht2 (h.keep (by omega) (by omega))) (h.toldT ht2 (h.keep (by omega) (by omega))) (h.outsT ht2 (h.keep (by omega) (by omega))) ⟨m, hp⟩ (h.behT ht2 (h.keep (by omega) (by omega))) fun d hd => h.rowsT ht2 hd (h.keep (by omega) (by omega))
theorem bv_same (c : Lay) (d : Int) (x : Option Value) : ({ c with h := setF c.h d x } : Lay).bv d = x.getD (.slice none 0 0) := by show (setF c.h d x d).getD _ = _; rw [setF_same]
theorem bv_other (c : Lay) {d e : Int} (x : Option Value) (hne : e ≠ d) : ({ c with h := setF c.h d x } : Lay).bv e = c.bv e := by show (setF c.h d x e).getD _ = _; rw [setF_other _ _ hne]; rfl
/-- What stands behind one is another list, in the map of those. w0: its row has turned; w1: the map has. -/
theorem LaneAt.setBeh {w0 : World} {m d : Nat} {x : Option Value} {q : List Op3} (hd : d < 7) (h : LaneAt w R way r g c) (ht0 : Turns (fun k => (c.bv (d : Int)).ownBlock = some k) w w0) (hp : MapIs w1 c.B (setF c.h (d : Int) x) m) (ht : Turns (fun k => k = c.B) w0 w1)
    (hv : Tail w0 0 43 3 (x.getD (.slice none 0 0)) q.length (flat q)) (hap : ∀ k, (x.getD (.slice none 0 0)).ownBlock = some k → (c.bv (d : Int)).ownBlock = some k ∨ w.heap.size ≤ k) : LaneStep w w1 R way c { r with behind := setF r.behind (d : Int) q } g := by
  have ht2 : Turns (ofs R c fun j => j = 5 ∨ j = d + 6) w w1 := (ht0.mono fun k _ hk => ⟨d + 6, by omega, .inr rfl, hk⟩).trans ht fun k _ hk => ⟨5, by omega, .inl rfl, hk⟩
  have hB : ∀ k, (x.getD (.slice none 0 0)).ownBlock = some k → k ≠ c.B := fun k hk e => by
    rcases hap k hk with h1 | h1
    · exact h.apart (d + 6) 5 k (by omega) (by omega) (by omega) h1 e
    · have := h.beh.elim fun _ h => h.lt
      omega
  refine h.change (c1 := { c with h := setF c.h (d : Int) x }) (d + 6) ht2 (fun i hi hne k hk => ?_) (fun k hk => ?_) (by omega) (h.blkT ht2 (h.keep (by omega) (by omega))) (h.tabT ht2 (h.keep (by omega) (by omega))) (h.toldT ht2 (h.keep (by omega) (by omega))) (h.outsT ht2 (h.keep (by omega) (by omega))) (h.wtsT ht2 (h.keep (by omega) (by omega))) ⟨m, hp⟩ fun e he => ?_
  · match i, hne, hk with
    | 0, _, hk => exact hk
    | 1, _, hk => exact hk
    | 2, _, hk => exact hk
    | 3, _, hk => exact hk
    | 4, _, hk => exact hk
    | 5, _, hk => exact hk
    | e + 6, hne, hk =>
      have hk' : (Lay.bv { c with h := setF c.h (d : Int) x } (e : Int)).ownBlock = some k := hk
      rw [bv_other c x (by omega)] at hk'
      exact hk'
  · have hk' : (Lay.bv { c with h := setF c.h (d : Int) x } (d : Int)).ownBlock = some k := hk
    rw [bv_same] at hk'
    exact hap k hk'
  · by_cases e1 : e = d
    · subst e1
      show Tail w1 0 _ 3 _ (setF r.behind (e : Int) q (e : Int)).length (flat (setF r.behind (e : Int) q (e : Int)))
      rw [bv_same, setF_same]
      exact hv.same fun k hk => ht.block k (hv.lt k hk).2 (hB k hk)
    · show Tail w1 0 _ 3 _ (setF r.behind (d : Int) q (e : Int)).length (flat (setF r.behind (d : Int) q (e : Int)))
      rw [bv_other c x (by omega), setF_other _ _ (by omega)]
      exact h.rowsT ht2 he (h.keep (by omega) (by omega))
end
section
variable {w : World} {R : Nat} {way : Int} {r : Runr} {g : Int → Option Value} {c : Lay}
theorem LaneAt.cell (h : LaneAt w R way r g c) (k : Nat) : w.cell? ⟨R, k, none⟩ = (laneCells way c)[k]? := by rw [cell_of_row w R _ _ _ _ h.blk]
theorem LaneAt.c0 (h : LaneAt w R way r g c) : w.cell? ⟨R, 0, none⟩ = some (.int .i64 way) := h.cell 0
theorem LaneAt.c1 (h : LaneAt w R way r g c) : w.cell? ⟨R, 1, none⟩ = some (.pointer (some ⟨c.T, 0, none⟩)) := h.cell 1
theorem LaneAt.c2 (h : LaneAt w R way r g c) : w.cell? ⟨R, 2, none⟩ = some c.tv := h.cell 2
theorem LaneAt.c3 (h : LaneAt w R way r g c) : w.cell? ⟨R, 3, none⟩ = some (.map (some c.A)) := h.cell 3
theorem LaneAt.c4 (h : LaneAt w R way r g c) : w.cell? ⟨R, 4, none⟩ = some (.map (some c.W)) := h.cell 4
theorem LaneAt.c5 (h : LaneAt w R way r g c) : w.cell? ⟨R, 5, none⟩ = some (.map (some c.B)) := h.cell 5
theorem LaneAt.thaw (h : LaneAt w R way r g c) (k : Nat) : w.frozen? ⟨R, k, none⟩ = false := by simp [World.frozen?, h.blk]
end
theorem freeU_ok2 {s : Tab2} (h : TabOk s) (t : Int) : TabOk (freeU s t).2 := by
  unfold freeU
  split
  · exact free_ok h t
  · exact h
/-- Free, on a table, and where those that come to be held lie. -/
theorem pTab_free (w : World) (T : Nat) (F : Nat → Prop) (s : Tab2) (t : Int) (h : PTab w T F s) (hl1 : s.1.length ≤ 400) (hl2 : s.2.length ≤ 400) :
    Calls Tryz.prog 49 #[.pointer (some ⟨T, 0, none⟩), .int .i64 t] w fun e w' => ∃ v', e = .returned (.tuple #[v', errV (freeU s t).1.2]) ∧ w'.ownsRow w.heap.size 67 3 v' (freeU s t).1.1.length (flat (freeU s t).1.1) ∧ ∃ F', PTab w' T F' (freeU s t).2 ∧ Turns F w w' ∧ (∀ k, F' k → F k ∨ w.heap.size ≤ k) ∧ ∀ q, v'.ownBlock = some q → ¬ F' q := by
  obtain ⟨hok, hv, wv, h1, h2⟩ := h
  refine (pFree_row T _ hv wv s t w h1 hl1 hl2 hok.locks.1 hok.locks.2).mono fun _ _ ⟨v', he, hr, hv', wv', hso, ht, htu, hf⟩ => ⟨v', he, hr, foot T hv' wv', ⟨freeU_ok2 hok t, hv', wv', ht, fun _ => Iff.rfl⟩, htu.mono fun k _ hk => (h2 k).2 hk, fun k hk => ?_, hso⟩
  rcases hf k hk with h3 | h3
  · exact .inl ((h2 k).2 h3)
  · exact .inr h3
/-- For, on a table, in a row of its own. -/
theorem pTab_for (w : World) (T : Nat) (F : Nat → Prop) (s : Tab2) (x : Op3) (h : PTab w T F s) (hl1 : s.1.length ≤ 400) (hl2 : s.2.length ≤ 400) :
    Calls Tryz.prog 75 #[.pointer (some ⟨T, 0, none⟩), lkV x] w fun e w' => ∃ v', e = .returned (.tuple #[v', errV (forU s x).2]) ∧ OwnI w' w.heap.size v' (forU s x).1 ∧ Below w.heap.size w w' := by
  obtain ⟨hok, hv, wv, h1, h2⟩ := h
  exact pFor_own T _ hv wv s x w h1 (by omega) (by omega) hok.locks.1 hok.locks.2
end Go.Proofs.YtjaeaanpbdmfgaeGreatDoor

namespace Go.Proofs.YtjaeaanpbdmfgaeGreatDoor

/-- The lock that an op needs, and the op of a lock. -/
def lkOf (o : Op3) : Op3 := (o.1, o.2.2, o.2.1)
theorem lkOf_lkOf (o : Op3) : lkOf (lkOf o) = o := rfl
/-- How it fits together. P: whose turn is not yet, and what each came to hold. -/
structure Fits (r : Runr) (P : Int → Option Op3) : Prop where
  ok : TabOk r.tab
  tab : ∀ x ∈ r.tab.2, r.waits x.1 = true ∧ P x.1 = none ∧ x = lkOf (r.op x.1)
  has : ∀ d, r.waits d = true → P d = none → ∃ x ∈ r.tab.2, x.1 = d
  out : ∀ d, r.out d = true → r.waits d = false
  pend : ∀ d x, P d = some x → r.out d = false → r.waits d = true ∧ x = lkOf (r.op d)
  vict : ∀ d, r.out d = true ↔ d ∈ r.vict
  nodup : r.vict.Pairwise (· ≠ ·)
  lock : ∀ d, r.waits d = true → isLock (lkOf (r.op d)) = true ∧ (r.op d).1 = d
/-- .. but for one deal whose locks are to be freed. -/
structure FitsBut (r : Runr) (P : Int → Option Op3) (t : Int) : Prop where
  ok : TabOk r.tab
  tab : ∀ x ∈ r.tab.2, x.1 ≠ t → r.waits x.1 = true ∧ P x.1 = none ∧ x = lkOf (r.op x.1)
  has : ∀ d, r.waits d = true → P d = none → ∃ x ∈ r.tab.2, x.1 = d
  out : ∀ d, r.out d = true → r.waits d = false
  pend : ∀ d x, P d = some x → r.out d = false → r.waits d = true ∧ x = lkOf (r.op d)
  vict : ∀ d, r.out d = true ↔ d ∈ r.vict
  nodup : r.vict.Pairwise (· ≠ ·)
  lock : ∀ d, r.waits d = true → isLock (lkOf (r.op d)) = true ∧ (r.op d).1 = d
  not : r.waits t = false
theorem fits0 : Fits run0 fun _ => none := ⟨tab_nil, fun x h => (by cases h), fun d h => (by cases h), fun d h => (by cases h), fun d x h => (by cases h), fun d => ⟨fun h => (by cases h), fun h => (by cases h)⟩, List.Pairwise.nil, fun d h => (by cases h)⟩
section
variable {r : Runr} {P : Int → Option Op3} {t : Int}
theorem Fits.told (h : Fits r P) (l : List Op3) : Fits { r with told := l } P := ⟨h.ok, h.tab, h.has, h.out, h.pend, h.vict, h.nodup, h.lock⟩
theorem Fits.behind (h : Fits r P) (b : Int → List Op3) : Fits { r with behind := b } P := ⟨h.ok, h.tab, h.has, h.out, h.pend, h.vict, h.nodup, h.lock⟩
theorem Fits.but (h : Fits r P) (hw : r.waits t = false) : FitsBut r P t := ⟨h.ok, fun x hx _ => h.tab x hx, h.has, h.out, h.pend, h.vict, h.nodup, h.lock, hw⟩
/-- Who does an op is not one whose turn is not yet. -/
theorem Fits.idle (h : Fits r P) {d : Int} (ho : r.out d = false) (hw : r.waits d = false) : P d = none := by
  cases hp : P d with
  | none => rfl
  | some x => have := (h.pend d x hp ho).1; rw [hw] at this; cases this
/-- For whom a deal waits, as the table has it. -/
theorem Fits.whom_yes (h : Fits r P) {d : Int} (hw : r.waits d = true) (hp : P d = none) : whomR r.tab d = forT r.tab (lkOf (r.op d)) := by
  obtain ⟨x, hx, he⟩ := h.has d hw hp
  unfold whomR
  cases hf : r.tab.2.find? fun y => y.1 == d with
  | none =>
    have := List.find?_eq_none.1 hf x hx
    simp [he] at this
  | some y =>
    have hy1 : y.1 = d := by simpa using List.find?_some hf
    have hy2 := (h.tab y (List.mem_of_find?_eq_some hf)).2.2
    rw [hy1] at hy2
    rw [← hy2]
theorem Fits.whom_no (h : Fits r P) {d : Int} (hw : ¬ (r.waits d = true ∧ P d = none)) : whomR r.tab d = [] := by
  unfold whomR
  cases hf : r.tab.2.find? fun y => y.1 == d with
  | none => rfl
  | some y =>
    have hy1 : y.1 = d := by simpa using List.find?_some hf
    have hy2 := h.tab y (List.mem_of_find?_eq_some hf)
    rw [hy1] at hy2
    exact absurd ⟨hy2.1, hy2.2.1⟩ hw
end
/-- More whose turn is not yet. -/
def addP (P : Int → Option Op3) (l : List Op3) (d : Int) : Option Op3 := match l.find? fun y => y.1 == d with | some x => some x | none => P d
theorem addP_nil (P : Int → Option Op3) (d : Int) : addP P [] d = P d := rfl
theorem addP_none {P : Int → Option Op3} {l : List Op3} {d : Int} : addP P l d = none ↔ P d = none ∧ ∀ y ∈ l, y.1 ≠ d := by
  unfold addP
  cases hf : l.find? fun y => y.1 == d with
  | none =>
    have h1 := List.find?_eq_none.1 hf
    exact ⟨fun h => ⟨h, fun y hy e => h1 y hy (by simp [e])⟩, fun h => h.1⟩
  | some x =>
    refine ⟨fun h => (by cases h), fun h => absurd (by simpa using List.find?_some hf) (h.2 x (List.mem_of_find?_eq_some hf))⟩
theorem addP_some {P : Int → Option Op3} {l : List Op3} {d : Int} {x : Op3} (h : addP P l d = some x) : (x ∈ l ∧ x.1 = d) ∨ P d = some x := by
  unfold addP at h
  cases hf : l.find? fun y => y.1 == d with
  | none => rw [hf] at h; exact .inr h
  | some y =>
    rw [hf] at h
    cases h
    exact .inl ⟨List.mem_of_find?_eq_some hf, by simpa using List.find?_some hf⟩
theorem addP_head (P : Int → Option Op3) (x : Op3) (l : List Op3) : addP P (x :: l) x.1 = some x := by
  unfold addP
  simp
theorem addP_tail (P : Int → Option Op3) (x : Op3) (l : List Op3) {d : Int} (h : d ≠ x.1) : addP P (x :: l) d = addP P l d := by
  unfold addP
  rw [List.find?_cons_of_neg (by simp; exact Ne.symm h)]
theorem addP_off {P : Int → Option Op3} {l : List Op3} {d : Int} (h : ∀ y ∈ l, y.1 ≠ d) : addP P l d = P d := by
  unfold addP
  rw [List.find?_eq_none.2 fun y hy => by simp; exact h y hy]
/-- Who is looked at is held by it, or waits on. -/
theorem grants_perm : ∀ (l : List Op3) (s : Tab2 × List Op3), ((grants s l).1.2 ++ (grants s l).2).Perm (s.1.2 ++ s.2 ++ l) := by
  intro l
  induction l with
  | nil => intro s; simp [grants]
  | cons x r ih =>
    intro s
    have h1 := ih (grant s x)
    have h2 : ((grant s x).1.2 ++ (grant s x).2 ++ r).Perm (s.1.2 ++ s.2 ++ (x :: r)) := by
      unfold grant
      split
      · simp only [List.append_assoc, List.singleton_append]
        exact List.Perm.refl _
      · simp only [List.append_assoc, List.singleton_append]
        refine List.Perm.append_left _ ?_
        exact List.perm_middle.symm
    exact h1.trans h2
theorem free_perm (s : Tab2) (t : Int) : ((freeT s t).1.2 ++ (freeT s t).2).Perm (withoutL s.2 t) := by
  have := grants_perm (withoutL s.2 t) ((withoutL s.1 t, []), [])
  simpa [freeT] using this
theorem free_apart {s : Tab2} (h : TabOk s) (t : Int) : ((freeT s t).1.2 ++ (freeT s t).2).Pairwise fun a b => a.1 ≠ b.1 :=
  ((free_perm s t).pairwise_iff (fun {_ _} hne => Ne.symm hne)).2 (h.deals.filter _)
theorem free_mem {s : Tab2} {t : Int} {x : Op3} (hx : x ∈ s.2) (hne : x.1 ≠ t) : x ∈ (freeT s t).1.2 ∨ x ∈ (freeT s t).2 := by
  have h1 : x ∈ withoutL s.2 t := List.mem_filter.2 ⟨hx, by simp [hne]⟩
  have h2 := (free_perm s t).mem_iff.2 h1
  rw [List.mem_append] at h2
  exact h2
/-- Locks have been freed. -/
theorem FitsBut.free {r : Runr} {P : Int → Option Op3} {t : Int} (h : FitsBut r P t) : Fits { r with tab := (freeT r.tab t).1 } (addP P (freeT r.tab t).2) := by
  have hap := free_apart h.ok t
  rw [List.pairwise_append] at hap
  refine ⟨free_ok h.ok t, fun x hx => ?_, fun d hw hp => ?_, h.out, fun d x hp ho => ?_, h.vict, h.nodup, h.lock⟩
  · obtain ⟨h1, h2⟩ := mem_free.2.1 hx
    obtain ⟨k1, k2, k3⟩ := h.tab x h1 h2
    exact ⟨k1, addP_none.2 ⟨k2, fun y hy e => hap.2.2 x hx y hy e.symm⟩, k3⟩
  · obtain ⟨h1, h2⟩ := addP_none.1 hp
    obtain ⟨x, hx, he⟩ := h.has d hw h1
    have hne : x.1 ≠ t := fun e => by rw [← he, e, h.not] at hw; cases hw
    rcases free_mem hx hne with h3 | h3
    · exact ⟨x, h3, he⟩
    · exact absurd he (h2 x h3)
  · rcases addP_some hp with ⟨h1, h2⟩ | h1
    · obtain ⟨h3, h4⟩ := mem_free.2.2 h1
      obtain ⟨k1, k2, k3⟩ := h.tab x h3 h4
      rw [h2] at k1 k3
      exact ⟨k1, k3⟩
    · exact h.pend d x h1 ho
theorem FitsBut.idle {r : Runr} {P : Int → Option Op3} {t : Int} (h : FitsBut r P t) : ∀ x ∈ (freeT r.tab t).2, P x.1 = none := fun x hx => by
  obtain ⟨h3, h4⟩ := mem_free.2.2 hx
  exact (h.tab x h3 h4).2.1
/-- One that was aborted ahead of its turn. -/
theorem Fits.skip {r : Runr} {P : Int → Option Op3} {x : Op3} {l : List Op3} (h : Fits r (addP P (x :: l))) (ho : r.out x.1 = true) (hl : ∀ y ∈ l, y.1 ≠ x.1) (hp : P x.1 = none) : Fits r (addP P l) := by
  have hx : addP P l x.1 = none := by rw [addP_off hl]; exact hp
  refine ⟨h.ok, fun y hy => ?_, fun d hw hq => ?_, h.out, fun d z hq hz => ?_, h.vict, h.nodup, h.lock⟩
  · obtain ⟨h1, h2, h3⟩ := h.tab y hy
    refine ⟨h1, ?_, h3⟩
    by_cases e : y.1 = x.1
    · rw [e]; exact hx
    · rw [addP_tail P x l e] at h2; exact h2
  · by_cases e : d = x.1
    · subst e; rw [h.out _ ho] at hw; cases hw
    · exact h.has d hw (by rw [addP_tail P x l e]; exact hq)
  · by_cases e : d = x.1
    · subst e; rw [hx] at hq; cases hq
    · exact h.pend d z (by rw [addP_tail P x l e]; exact hq) hz
/-- One whose turn it is. -/
theorem Fits.got {r : Runr} {P : Int → Option Op3} {x : Op3} {l : List Op3} (h : Fits r (addP P (x :: l))) (ho : r.out x.1 = false) (hl : ∀ y ∈ l, y.1 ≠ x.1) (hp : P x.1 = none) : r.waits x.1 = true ∧ x = lkOf (r.op x.1) ∧ Fits (gotR r x.1) (addP P l) := by
  have hx : addP P l x.1 = none := by rw [addP_off hl]; exact hp
  obtain ⟨hw, he⟩ := h.pend x.1 x (addP_head P x l) ho
  refine ⟨hw, he, ⟨h.ok, fun y hy => ?_, fun d hw2 hq => ?_, fun d hd => ?_, fun d z hq hz => ?_, h.vict, h.nodup, fun d hd => ?_⟩⟩
  · obtain ⟨h1, h2, h3⟩ := h.tab y hy
    have e : y.1 ≠ x.1 := fun e => by rw [e, addP_head] at h2; cases h2
    rw [addP_tail P x l e] at h2
    exact ⟨by show setF r.waits x.1 false y.1 = true; rw [setF_other _ _ e]; exact h1, h2, h3⟩
  · have hw3 : setF r.waits x.1 false d = true := hw2
    have e : d ≠ x.1 := fun e => by rw [e, setF_same] at hw3; cases hw3
    rw [setF_other _ _ e] at hw3
    exact h.has d hw3 (by rw [addP_tail P x l e]; exact hq)
  · show setF r.waits x.1 false d = false
    by_cases e : d = x.1
    · rw [e, setF_same]
    · rw [setF_other _ _ e]; exact h.out d hd
  · have e : d ≠ x.1 := fun e => by rw [e, hx] at hq; cases hq
    obtain ⟨k1, k2⟩ := h.pend d z (by rw [addP_tail P x l e]; exact hq) hz
    exact ⟨by show setF r.waits x.1 false d = true; rw [setF_other _ _ e]; exact k1, k2⟩
  · have hw3 : setF r.waits x.1 false d = true := hd
    have e : d ≠ x.1 := fun e => by rw [e, setF_same] at hw3; cases hw3
    rw [setF_other _ _ e] at hw3
    exact h.lock d hw3
def DoFits (doF : Runr → Op3 → Runr) : Prop := ∀ r o P, Good r → Fits r P → r.out o.1 = false → r.waits o.1 = false → isOpB o = true → Fits (doF r o) P
theorem drain_fits {doF : Runr → Op3 → Runr} (hO : DoOk doF) (hF : DoFits doF) {P : Int → Option Op3} (d : Int) (h1 : 1 ≤ d) (h6 : d ≤ 6) : ∀ (m : Nat) (r : Runr), Good r → Fits r P → Fits (drainN doF d m r) P := by
  intro m
  induction m with
  | zero => intro r _ h; exact h
  | succ m ih =>
    intro r hg h
    unfold drainN
    split
    · exact h
    · rename_i hw
      split
      · exact h
      · rename_i o q hb
        obtain ⟨p1, p2, p3, p4, p5, p6⟩ := pop_ok hg h1 h6 hb
        have hw' : r.waits d = false := by simpa using hw
        have ho : (popR r d q).out o.1 = false := by rw [p4]; exact p6
        have hw2 : (popR r d q).waits o.1 = false := by rw [p4]; exact hw'
        have hs := hO (popR r d q) o p1 ho hw2 p5
        exact ih _ hs.good (hF (popR r d q) o P p1 (h.behind _) ho hw2 p5)
theorem grants_fits {doF : Runr → Op3 → Runr} (hO : DoOk doF) (hF : DoFits doF) {P : Int → Option Op3} : ∀ (l : List Op3) (r : Runr), Good r → Fits r (addP P l) → (l.Pairwise fun a b => a.1 ≠ b.1) → (∀ x ∈ l, P x.1 = none) → Fits (l.foldl (grantR doF) r) P := by
  intro l
  induction l with
  | nil => intro r _ h _ _; exact h
  | cons x l ih =>
    intro r hg h hp hn
    rw [List.pairwise_cons] at hp
    have hl : ∀ y ∈ l, y.1 ≠ x.1 := fun y hy e => hp.1 y hy e.symm
    have hg1 := (grant_ok hO x r hg).good
    refine ih (grantR doF r x) hg1 ?_ hp.2 fun y hy => hn y (List.mem_cons_of_mem _ hy)
    cases ho : r.out x.1 with
    | true => rw [grantR_no (h.out _ ho)]; exact h.skip ho hl (hn x List.mem_cons_self)
    | false =>
      obtain ⟨k1, k2, k3⟩ := h.got ho hl (hn x List.mem_cons_self)
      rw [grantR_yes k1]
      have hr := hg.wait x.1 k1
      exact drain_fits hO hF x.1 hr.1 hr.2 _ _ (got_ok hg k1).1 k3
theorem free_fits {doF : Runr → Op3 → Runr} (hO : DoOk doF) (hF : DoFits doF) {P : Int → Option Op3} {r : Runr} {t : Int} (hg : Good { r with tab := (freeT r.tab t).1 }) (h : FitsBut r P t) : Fits (freeR doF r t) P := by
  have hap := free_apart h.ok t
  rw [List.pairwise_append] at hap
  exact grants_fits hO hF _ _ hg h.free hap.2.1 h.idle
theorem Fits.abort {r : Runr} {P : Int → Option Op3} {t : Int} (h : Fits r P) (ho : r.out t = false) : FitsBut (abort0 r t) P t := by
  have hv : t ∉ r.vict := fun hm => by rw [(h.vict t).2 hm] at ho; cases ho
  refine ⟨h.ok, fun x hx hne => ?_, fun d hw hp => ?_, fun d hd => ?_, fun d x hp hq => ?_, fun d => ?_, ?_, fun d hw => ?_, setF_same _ _ _⟩
  · obtain ⟨k1, k2, k3⟩ := h.tab x hx
    exact ⟨by show setF r.waits t false x.1 = true; rw [setF_other _ _ hne]; exact k1, k2, k3⟩
  · have hw3 : setF r.waits t false d = true := hw
    have e : d ≠ t := fun e => by rw [e, setF_same] at hw3; cases hw3
    rw [setF_other _ _ e] at hw3
    exact h.has d hw3 hp
  · show setF r.waits t false d = false
    by_cases e : d = t
    · rw [e, setF_same]
    · have hd2 : setF r.out t true d = true := hd
      rw [setF_other _ _ e] at hd2 ⊢
      exact h.out d hd2
  · have hq2 : setF r.out t true d = false := hq
    have e : d ≠ t := fun e => by rw [e, setF_same] at hq2; cases hq2
    rw [setF_other _ _ e] at hq2
    obtain ⟨k1, k2⟩ := h.pend d x hp hq2
    exact ⟨by show setF r.waits t false d = true; rw [setF_other _ _ e]; exact k1, k2⟩
  · show setF r.out t true d = true ↔ d ∈ r.vict ++ [t]
    rw [List.mem_append, List.mem_singleton]
    by_cases e : d = t
    · rw [e, setF_same]; exact ⟨fun _ => .inr rfl, fun _ => rfl⟩
    · rw [setF_other _ _ e, h.vict d]; exact ⟨.inl, fun h => h.elim id fun e2 => absurd e2 e⟩
  · show (r.vict ++ [t]).Pairwise _
    rw [List.pairwise_append]
    refine ⟨h.nodup, List.pairwise_singleton _ _, fun a ha b hb e => hv ?_⟩
    rw [List.mem_singleton] at hb
    rw [← hb, ← e]
    exact ha
  · have hw3 : setF r.waits t false d = true := hw
    have e : d ≠ t := fun e => by rw [e, setF_same] at hw3; cases hw3
    rw [setF_other _ _ e] at hw3
    exact h.lock d hw3
theorem abort_fits {doF : Runr → Op3 → Runr} (hO : DoOk doF) (hF : DoFits doF) {P : Int → Option Op3} {r : Runr} {t : Int} (hg : Good r) (h : Fits r P) (h1 : 1 ≤ t) (h6 : t ≤ 6) (ho : r.out t = false) : Fits (abortR doF r t) P :=
  free_fits hO hF (abort_good hg h1 h6 ho) (h.abort ho)
theorem wound_fits {doF : Runr → Op3 → Runr} (hO : DoOk doF) (hF : DoFits doF) {P : Int → Option Op3} (t : Int) : ∀ (n : Nat) (r : Runr), Good r → Fits r P → Fits (woundN doF t n r) P := by
  intro n
  induction n with
  | zero => intro r _ h; exact h
  | succ n ih =>
    intro r hg h
    unfold woundN
    split
    · exact h
    · rename_i v hv
      obtain ⟨k1, k2, k3⟩ := whom_deal hg (young_mem hv).1
      exact ih _ (abort_ok hO hg k2 k3 k1).1.good (abort_fits hO hF hg h k2 k3 k1)
theorem way_fits {doF : Runr → Op3 → Runr} (hO : DoOk doF) (hF : DoFits doF) {P : Int → Option Op3} (way t : Int) (r : Runr) (hg : Good r) (h : Fits r P) (h1 : 1 ≤ t) (h6 : t ≤ 6) (ho : r.out t = false) : Fits (wayR way doF r t) P := by
  unfold wayR
  split
  · split
    · exact abort_fits hO hF hg h h1 h6 ho
    · exact h
  · split
    · split
      · exact h
      · split
        · exact abort_fits hO hF hg h h1 h6 ho
        · exact h
    · exact wound_fits hO hF t 7 r hg h
theorem ask_new {s : Tab2} {x : Op3} (hl : isLock x = true) (hw : waitsB s.2 x.1 = false) : ((askT s x).1.1 = true ∧ (askT s x).2.2 = s.2 ∧ (askT s x).1.2 = 0) ∨ askT s x = ((false, 0), (s.1, s.2 ++ [x])) := by
  unfold askT
  rw [if_neg (by rw [hl]; decide), if_neg (by rw [hw]; decide)]
  split
  · exact .inl ⟨rfl, rfl, rfl⟩
  · split
    · exact .inl ⟨rfl, rfl, rfl⟩
    · exact .inr rfl
theorem op_lock {o : Op3} (h : isOpB o = true) (ha : ¬ 3 ≤ o.2.1) : isLock (lkOf o) = true := by
  have he : endsB o.2.1 = false := by unfold endsB; simp; omega
  simp [isOpB, he] at h
  unfold lkOf isLock
  simp
  omega
theorem Fits.calm {r : Runr} {P : Int → Option Op3} (h : Fits r P) {d : Int} (hw : r.waits d = false) : waitsB r.tab.2 d = false := by
  cases hb : waitsB r.tab.2 d with
  | false => rfl
  | true =>
    obtain ⟨y, hy, he⟩ := List.any_eq_true.1 hb
    have := (h.tab y hy).1
    rw [show y.1 = d by simpa using he, hw] at this
    cases this
theorem Fits.held {r : Runr} {P : Int → Option Op3} {s : Tab2} (h : Fits r P) (hok : TabOk s) (he : s.2 = r.tab.2) : Fits { r with tab := s } P :=
  ⟨hok, fun x hx => h.tab x (he ▸ hx), fun d hw hp => by show ∃ x ∈ s.2, _; rw [he]; exact h.has d hw hp, h.out, h.pend, h.vict, h.nodup, h.lock⟩
theorem Fits.wait {r : Runr} {P : Int → Option Op3} {o : Op3} (h : Fits r P) (ho : r.out o.1 = false) (hw : r.waits o.1 = false) (hl : isLock (lkOf o) = true) (hask : askT r.tab (lkOf o) = ((false, 0), (r.tab.1, r.tab.2 ++ [lkOf o]))) : Fits (wait0 r o) P := by
  have hask' : askT r.tab (o.1, o.2.2, o.2.1) = ((false, 0), (r.tab.1, r.tab.2 ++ [lkOf o])) := hask
  have hP := h.idle ho hw
  have hold : ∀ x ∈ r.tab.2, x.1 ≠ o.1 := fun x hx e => by have := (h.tab x hx).1; rw [e, hw] at this; cases this
  have hk := ask_ok h.ok (lkOf o)
  have e2 : (wait0 r o).tab.2 = r.tab.2 ++ [lkOf o] := by show (askT r.tab (o.1, o.2.2, o.2.1)).2.2 = _; rw [hask']
  refine ⟨hk, fun x hx => ?_, fun d hd hp => ?_, fun d hd => ?_, fun d x hp hq => ?_, h.vict, h.nodup, fun d hd => ?_⟩
  · rw [e2, List.mem_append, List.mem_singleton] at hx
    show setF r.waits o.1 true x.1 = true ∧ _ ∧ x = lkOf (setF r.op o.1 o x.1)
    rcases hx with hx | rfl
    · rw [setF_other _ _ (hold x hx), setF_other _ _ (hold x hx)]; exact h.tab x hx
    · exact ⟨setF_same _ _ _, hP, by show lkOf o = lkOf (setF r.op o.1 o o.1); rw [setF_same]⟩
  · rw [e2]
    by_cases e : d = o.1
    · exact ⟨lkOf o, List.mem_append_right _ List.mem_cons_self, e.symm⟩
    · have hd2 : setF r.waits o.1 true d = true := hd
      rw [setF_other _ _ e] at hd2
      obtain ⟨x, hx, he⟩ := h.has d hd2 hp
      exact ⟨x, List.mem_append_left _ hx, he⟩
  · have e : d ≠ o.1 := fun e => by have hd2 : r.out d = true := hd; rw [e, ho] at hd2; cases hd2
    show setF r.waits o.1 true d = false
    rw [setF_other _ _ e]
    exact h.out d hd
  · have e : d ≠ o.1 := fun e => by rw [e, hP] at hp; cases hp
    show setF r.waits o.1 true d = true ∧ x = lkOf (setF r.op o.1 o d)
    rw [setF_other _ _ e, setF_other _ _ e]
    exact h.pend d x hp hq
  · show isLock (lkOf (setF r.op o.1 o d)) = true ∧ (setF r.op o.1 o d).1 = d
    by_cases e : d = o.1
    · rw [e, setF_same]; exact ⟨hl, rfl⟩
    · have hd2 : setF r.waits o.1 true d = true := hd
      rw [setF_other _ _ e] at hd2 ⊢
      exact h.lock d hd2
theorem doW_fits {doF : Runr → Op3 → Runr} (hO : DoOk doF) (hF : DoFits doF) (way : Int) : DoFits (doW way doF) := by
  intro r o P hg h ho hw hop
  unfold doW
  split
  · exact free_fits hO hF (free_good (tell_ok hg o).1 o.1) ((h.told _).but hw)
  · rename_i ha
    have hl := op_lock hop ha
    rcases ask_new (s := r.tab) (x := lkOf o) hl (h.calm hw) with ⟨h1, h2, -⟩ | h1
    · have h1' : (askT r.tab (o.1, o.2.2, o.2.1)).1.1 = true := h1
      rw [if_pos h1']
      exact (h.held (ask_ok h.ok (lkOf o)) h2).told _
    · have h1' : (askT r.tab (o.1, o.2.2, o.2.1)) = ((false, 0), (r.tab.1, r.tab.2 ++ [lkOf o])) := h1
      rw [if_neg (by rw [h1']; simp)]
      obtain ⟨a1, a6⟩ := isOp_range hop
      exact way_fits hO hF way o.1 _ (wait_ok hg ho hw a1 a6).1 (h.wait ho hw hl h1) a1 a6 ho
theorem doN_fits (way : Int) : ∀ n, DoFits (doN way n) := by
  intro n
  induction n with
  | zero => intro r o P _ h _ _ _; exact h
  | succ n ih => exact doW_fits (doN_ok way n) ih way
theorem come_fits (way : Int) {r : Runr} {P : Int → Option Op3} {o : Op3} (hg : Good r) (h : Fits r P) (hop : isOpB o = true) : Fits (comeR way r o) P := by
  unfold comeR
  split
  · exact h
  · rename_i ho
    split
    · exact h.behind _
    · rename_i hw
      exact doN_fits way 41 r o P hg h (by simpa using ho) (by simpa using hw) hop
theorem strict_fits (way : Int) (l : List Op3) (hop : ∀ o ∈ l, isOpB o = true) : ∀ k, k ≤ l.length → Fits (strictR way (l.take k)) fun _ => none := by
  intro k
  induction k with
  | zero => intro _; exact fits0
  | succ k ih =>
    intro hk
    have e : strictR way (l.take (k + 1)) = comeR way (strictR way (l.take k)) l[k] := by
      unfold strictR
      rw [List.take_succ_eq_append_getElem (by omega), List.foldl_append]
      rfl
    rw [e]
    exact come_fits way (strict_ok way l hop k (by omega)).1 (ih (by omega)) (hop _ (List.getElem_mem (show k < l.length by omega)))
/-- Of those for whom one waits the first is the oldest. -/
theorem die_iff {α : Type} (a b : α) (t : Int) : ∀ {l : List Int}, l.Pairwise (· < ·) → (match l with | [] => b | x :: _ => if x < t then a else b) = if (l.any fun x => decide (x < t)) = true then a else b := by
  intro l h
  cases l with
  | nil => rfl
  | cons x q =>
    rw [List.pairwise_cons] at h
    have e : ((x :: q).any fun x => decide (x < t)) = decide (x < t) := by
      show (decide (x < t) || q.any fun x => decide (x < t)) = decide (x < t)
      by_cases hx : x < t
      · simp [hx]
      · simp only [hx, decide_false, Bool.false_or, List.any_eq_false, decide_eq_true_eq]
        intro y hy
        have := h.1 y hy
        omega
    rw [e]
    simp only [decide_eq_true_eq]
end Go.Proofs.YtjaeaanpbdmfgaeGreatDoor
