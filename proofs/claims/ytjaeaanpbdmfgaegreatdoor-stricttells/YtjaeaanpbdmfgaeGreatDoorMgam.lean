/-
  PROVED HERE: plain.Told tells nil as 0 and an api.Errno as its number; lanesame.Error compares that number with another one. Old memory stays as it was.
  Conditions: the variable errors.errorType holds the handle of the type error (the row lists it).
  PROVED HERE: what package strict is asked to answer, case by case; an error and its number are one.
  Conditions: none.
  PROVED HERE: how a table of locks (two lists in rows of its own) lies in memory, and what of it stands when only some blocks have turned.
  Conditions: none.
  PROVED HERE: append on a row of one's own, and where the row lies then: where it lay, or in a new block.
  Conditions: as the library's law of append has them.
  PROVED HERE: a row of one's own of which the slice shows a later piece (s = s[1:]), what append makes of it, and where it lies then: where it lay, or in a new block.
  Conditions: as the library's laws of append have them.
  PROVED HERE: how a runner of deals that keep locks (laneref2.Runner: a way, a table, who waits and for which op, what stands behind, who is aborted, what is told, who was aborted) lies in memory: a block of 47 cells and eleven rows of its own, all apart; what becomes of it when one of its parts is set.
  Conditions: none.
-/
import Derived.Test.YtjaeaanpbdmfgaeGreatDoorAs
import Derived.Test.YtjaeaanpbdmfgaeGreatDoorMgak
import Derived.Test.YtjaeaanpbdmfgaeGreatDoorMgad
import Derived.Test.YtjaeaanpbdmfgaeGreatDoorMgae
import Derived.Test.YtjaeaanpbdmfgaeGreatDoorOps
import Derived.Test.YtjaeaanpbdmfgaeGreatDoorMgaf
import Derived.OwnWalk
import Derived.Laws.Rows
import Derived.WalkKit
import Derived.WalkSpells
import Derived.Handy
import Derived.Deep.RegionLaw
import Derived.Laws.AppendOwn
import Derived.ArgAppend
namespace Go.Proofs.YtjaeaanpbdmfgaeGreatDoor
open Go.RowKit

/-- errors.errorType holds the handle of the type error. -/
def EtAt (w : World) : Prop := w.cell? ⟨0, 0, none⟩ = some (.iface 115 (.agg #[.pointer (some ⟨1, 28, none⟩)]))
theorem EtAt.lt {w : World} (h : EtAt w) : 0 < w.heap.size := by
  unfold EtAt at h
  rcases Nat.lt_or_ge 0 w.heap.size with h0 | h0
  · exact h0
  · simp [World.cell?, Array.getElem?_eq_none h0] at h
theorem EtAt.alloc {w : World} (h : EtAt w) (o : Obj) : EtAt (w.alloc o) := by
  unfold EtAt
  rw [World.cell?_alloc_lt _ _ ⟨0, 0, none⟩ h.lt]; exact h
theorem EtAt.below {w w1 : World} {B : Nat} (h : EtAt w) (hb : Below B w w1) (hB : 0 < B) : EtAt w1 := by
  unfold EtAt
  rw [hb.cell (p := ⟨0, 0, none⟩) hB]; exact h

theorem told_nil (w : World) : Calls Tryz.prog 16 #[.nilIface] w fun e w' => e = .returned (.int .i64 0) ∧ w' = w := by
  go_enter Tryz.func16, Tryz.ntmps16
  go_wp2
  go_ret
  exact ⟨rfl, rfl⟩
set_option maxHeartbeats 1000000 in
theorem told_hit (n : Int) (w : World) (hg : EtAt w) : Calls Tryz.prog 16 #[.iface 51 (.int .i64 n)] w fun e w' => e = .returned (.int .i64 n) ∧ Below w.heap.size w w' := by
  have hgA : (w.alloc (.cells #[.int .i64 0] 51)).cell? ⟨0, 0, none⟩ = some (.iface 115 (.agg #[.pointer (some ⟨1, 28, none⟩)])) := hg.alloc _
  have htA : (w.alloc (.cells #[.int .i64 0] 51)).cell? ⟨w.heap.size, 0, none⟩ = some (.int .i64 0) := by simp
  have hfA : (w.alloc (.cells #[.int .i64 0] 51)).frozen? ⟨w.heap.size, 0, none⟩ = false := by simp
  clear hg
  go_enter Tryz.func16, Tryz.ntmps16
  go_wp2_with (go_at_call 29; refine (as_hit n _ (.int .i64 0) _ hgA htA hfA).mono ?_; rintro e w' ⟨rfl, rfl⟩)
  go_ret
  exact ⟨rfl, by go_grown⟩
theorem error_nil (x : Int) (w : World) : Calls Tryz.prog 7 #[.nilIface, .int .i64 x] w fun e w' => e = .returned (.bool ((0 : Int) == x)) ∧ w' = w := by
  go_enter Tryz.func7, Tryz.ntmps7
  go_wp2_with (go_at_call 16; refine (told_nil _).mono ?_; rintro e w' ⟨rfl, rfl⟩)
  go_ret
  exact ⟨rfl, rfl⟩
theorem error_hit (n x : Int) (w : World) (hg : EtAt w) : Calls Tryz.prog 7 #[.iface 51 (.int .i64 n), .int .i64 x] w fun e w' => e = .returned (.bool (n == x)) ∧ Below w.heap.size w w' := by
  go_enter Tryz.func7, Tryz.ntmps7
  go_wp2_with (go_at_call 16; refine (told_hit n _ hg).mono ?_; rintro e w' ⟨rfl, hb⟩)
  go_ret
  exact ⟨rfl, hb⟩
end Go.Proofs.YtjaeaanpbdmfgaeGreatDoor

namespace Go.Proofs.YtjaeaanpbdmfgaeGreatDoor
open Go.RowKit

theorem err_any (n : Int) (w : World) (hg : EtAt w) : Calls Tryz.prog 7 #[errV n, .int .i64 n] w fun e w' => e = .returned (.bool true) ∧ Below w.heap.size w w' := by
  by_cases h : n = 0
  · subst h
    exact (error_nil 0 w).mono fun _ _ ⟨he, hw⟩ => ⟨he, by rw [hw]; exact Below.refl _ _⟩
  · rw [errV_ne h]
    exact (error_hit n n w hg).mono fun _ _ ⟨he, hb⟩ => ⟨by rw [he]; simp, hb⟩
theorem strictU_bad {l : List Op3} {way : Int} (h : (chk l).2 ≠ 0) : strictU l way = (([], []), (chk l).2) := by
  unfold strictU
  rw [if_pos h]
theorem strictU_way {l : List Op3} {way : Int} (h : (chk l).2 = 0) (hw : way < 0 ∨ 2 < way) : strictU l way = (([], []), 1) := by
  unfold strictU
  rw [if_neg (by simpa using h), if_pos hw]
theorem strictU_ok {l : List Op3} {way : Int} (h : (chk l).2 = 0) (hw : ¬ (way < 0 ∨ 2 < way)) : strictU l way = (((strictR way l).told, (strictR way l).vict), 0) := by
  unfold strictU
  rw [if_neg (by simpa using h), if_neg hw]
end Go.Proofs.YtjaeaanpbdmfgaeGreatDoor

namespace Go.Proofs.YtjaeaanpbdmfgaeGreatDoor
open Go.RowKit

/-- Of the blocks that there were, only those of F have turned. -/
structure Turns (F : Nat → Prop) (w w' : World) : Prop where
  os : w'.os = w.os
  tape : w'.tape = w.tape
  output : w'.output = w.output
  size : w.heap.size ≤ w'.heap.size
  block : ∀ k, k < w.heap.size → ¬ F k → w'.heap[k]? = w.heap[k]?
theorem Turns.refl (F : Nat → Prop) (w : World) : Turns F w w := ⟨rfl, rfl, rfl, Nat.le_refl _, fun _ _ _ => rfl⟩
theorem Turns.trans {F G : Nat → Prop} {w w1 w2 : World} (h : Turns F w w1) (k : Turns G w1 w2) (hG : ∀ j, j < w.heap.size → G j → F j) : Turns F w w2 :=
  ⟨k.os.trans h.os, k.tape.trans h.tape, k.output.trans h.output, Nat.le_trans h.size k.size, fun j h1 h2 => (k.block j (Nat.lt_of_lt_of_le h1 h.size) (fun hg => h2 (hG j h1 hg))).trans (h.block j h1 h2)⟩
theorem Turns.of_below {F : Nat → Prop} {w w' : World} (h : Below w.heap.size w w') : Turns F w w' := ⟨h.os, h.tape, h.output, h.size, fun k hk _ => h.block k hk⟩
theorem Turns.below {F : Nat → Prop} {B : Nat} {w w' : World} (h : Turns F w w') (hB : B ≤ w.heap.size) (hF : ∀ k, k < B → ¬ F k) : Below B w w' := ⟨h.os, h.tape, h.output, h.size, fun k hk => h.block k (Nat.lt_of_lt_of_le hk hB) (hF k hk)⟩
theorem Turns.then_below {F : Nat → Prop} {w w1 w2 : World} (h : Turns F w w1) (k : Below w1.heap.size w1 w2) : Turns F w w2 := h.trans (Turns.of_below (F := fun _ => False) k) fun _ _ hf => hf.elim
theorem Turns.drew {F : Nat → Prop} {w w1 : World} (h : Turns F w w1) : Turns F w w1.drew := ⟨h.os, h.tape, h.output, h.size, h.block⟩
theorem Turns.alloc {F : Nat → Prop} {w w1 : World} (h : Turns F w w1) (o : Obj) : Turns F w (w1.alloc o) := h.then_below ((Below.refl _ w1).alloc (Nat.le_refl _) o)
theorem Turns.setCell {F : Nat → Prop} {w w1 : World} (h : Turns F w w1) {p : Addr} (hp : F p.block ∨ w.heap.size ≤ p.block) (u : Value) : Turns F w (w1.setCell p u) := by
  refine ⟨h.os, h.tape, h.output, by simpa using h.size, fun k h1 h2 => ?_⟩
  have hne : k ≠ p.block := by
    intro e
    rcases hp with hp | hp
    · exact h2 (e ▸ hp)
    · omega
  exact (Below.heap_setCell w1 p u k hne).trans (h.block k h1 h2)
theorem Turns.grown {F : Nat → Prop} {w w1 w2 : World} {row : Option Nat} (h : Turns F w w1) (hg : w1.grownBy w2 row) (hr : ∀ k, row = some k → F k ∨ w.heap.size ≤ k) : Turns F w w2 :=
  ⟨hg.os.trans h.os, hg.tape.trans h.tape, hg.output.trans h.output, Nat.le_trans h.size hg.size, fun k h1 h2 => (hg.block k (Nat.lt_of_lt_of_le h1 h.size) (fun e => by
    rcases hr k e.symm with hp | hp
    · exact h2 hp
    · omega)).trans (h.block k h1 h2)⟩
theorem Turns.mono {F G : Nat → Prop} {w w1 : World} (h : Turns F w w1) (hF : ∀ k, k < w.heap.size → F k → G k) : Turns G w w1 := ⟨h.os, h.tape, h.output, h.size, fun k h1 h2 => h.block k h1 fun hf => h2 (hF k h1 hf)⟩
theorem Turns.cell {F : Nat → Prop} {w w1 : World} (h : Turns F w w1) {p : Addr} (hp : p.block < w.heap.size) (hF : ¬ F p.block) : w1.cell? p = w.cell? p := World.cell?_of_block (w := w) (h.block p.block hp hF)
/-- What is owned stays owned where its own block does not turn. -/
theorem Turns.own {F : Nat → Prop} {w w1 : World} {base e size n : Nat} {v : Value} {xs : List Value} (h : Turns F w w1) (ho : w.ownsRow base e size v n xs) (hF : ∀ g, v.ownBlock = some g → ¬ F g) : w1.ownsRow base e size v n xs := by
  have h' := ho
  obtain ⟨hl, hd | ⟨g, cap, cur, hv, hbg, hg, hn, hm, hsz, htk⟩⟩ := ho
  · exact ⟨hl, .inl hd⟩
  · refine ⟨hl, .inr ⟨g, cap, cur, hv, hbg, ?_, hn, hm, hsz, htk⟩⟩
    rw [h.block g (h'.lt g (by rw [hv]; rfl)).2 (hF g (by rw [hv]; rfl))]; exact hg
theorem own_less {w : World} {base base2 e size n : Nat} {v : Value} {xs : List Value} (h : w.ownsRow base e size v n xs) (hb : base2 ≤ base) : w.ownsRow base2 e size v n xs := by
  obtain ⟨hl, hd | ⟨g, cap, cur, hv, hbg, hg, hn, hm, hsz, htk⟩⟩ := h
  · exact ⟨hl, .inl hd⟩
  · exact ⟨hl, .inr ⟨g, cap, cur, hv, Nat.le_trans hb hbg, hg, hn, hm, hsz, htk⟩⟩
theorem isOps_row {w : World} {base e n : Nat} {v : Value} {l : List Op3} (h : w.ownsRow base e 3 v n (flat l)) (hl : l.length = n) : IsOps w v l := by
  have h' := h
  obtain ⟨hx, ⟨hv, hd⟩ | ⟨g, cap, cur, hv, hb, hg, hn, hm, hsz, htk⟩⟩ := h'
  · have : l = [] := List.length_eq_zero_iff.1 (by omega)
    subst this
    rw [hv]
    exact ⟨none, 0, 0, 0, rfl, fun h => absurd h (by simp), fun _ => ⟨rfl, rfl⟩, .inr rfl, fun i hi => by simp at hi⟩
  · refine ⟨some ⟨g, 0, none⟩, g, 0, cap, by rw [hl]; exact hv, fun _ => rfl, fun h => (by simp at h), .inl (h.lt g (by rw [hv]; rfl)).2, opsAt_of fun j u hj => ?_⟩
    have := h.cells (g := g) (by rw [hv]; rfl) j u hj
    rw [Addr.add_lit] at this
    exact this
theorem own_slice3 {w : World} {base e size n : Nat} {v : Value} {xs : List Value} (h : w.ownsRow base e size v n xs) : ∃ ad c, v = .slice ad n c ∧ (0 < n → ∃ g, ad = some ⟨g, 0, none⟩ ∧ base ≤ g ∧ g < w.heap.size ∧ ∀ k, w.frozen? ⟨g, k, none⟩ = false) := by
  have h' := h
  obtain ⟨_, ⟨hv, h0⟩ | ⟨g, c, cur, hv, hb, hg, _⟩⟩ := h
  · exact ⟨none, 0, by rw [hv, h0], fun hp => absurd hp (by omega)⟩
  · exact ⟨_, c, hv, fun _ => ⟨g, rfl, hb, (h'.lt g (by rw [hv]; rfl)).2, fun k => by simp [World.frozen?, hg]⟩⟩
theorem flat_set : ∀ (l : List Op3) (k : Nat) (x : Op3), k < l.length → flat (l.set k x) = (((flat l).set (k * 3) (.int .i64 x.1)).set (k * 3 + 1) (.int .i64 x.2.1)).set (k * 3 + 2) (.int .i64 x.2.2) := by
  intro l
  induction l with
  | nil => intro k x h; simp at h
  | cons y r ih =>
    intro k x h
    cases k with
    | zero => simp [flat]
    | succ k =>
      rw [List.set_cons_succ, flat, ih k x (by simpa using h), show (k + 1) * 3 = k * 3 + 3 by omega]
      simp [flat]
/-- A lock is put into the place of another one. -/
theorem own_put3 {w : World} {base e n c g : Nat} {l : List Op3} (h : w.ownsRow base e 3 (.slice (some ⟨g, 0, none⟩) n c) n (flat l)) (hl : l.length = n) {k : Nat} (hk : k < n) (x : Op3) :
    (((w.setCell ⟨g, k * 3, none⟩ (.int .i64 x.1)).setCell ⟨g, k * 3 + 1, none⟩ (.int .i64 x.2.1)).setCell ⟨g, k * 3 + 2, none⟩ (.int .i64 x.2.2)).ownsRow base e 3 (.slice (some ⟨g, 0, none⟩) n c) n (flat (l.set k x)) := by
  obtain ⟨hx, ⟨hv, _⟩ | ⟨g2, c2, cur, hv, hb, hg, hn, hm, hsz, htk⟩⟩ := h
  · cases hv
  · simp only [Value.slice.injEq, Option.some.injEq, Addr.mk.injEq, and_true, true_and] at hv
    obtain ⟨rfl, rfl⟩ := hv
    refine ⟨by rw [flat_length, List.length_set, hl], .inr ⟨g, c, ((cur.setIfInBounds (k * 3) (.int .i64 x.1)).setIfInBounds (k * 3 + 1) (.int .i64 x.2.1)).setIfInBounds (k * 3 + 2) (.int .i64 x.2.2), rfl, hb, ?_, hn, hm, by simpa using hsz, ?_⟩⟩
    · unfold World.setCell
      simp [Array.getElem?_modify, hg]
    · rw [flat_set l k x (by omega), ← htk]
      simp only [Array.toList_setIfInBounds, List.take_set]
theorem holdL_at {l : List Op3} {x : Op3} : ∀ {k : Nat}, k < l.length → (∀ j, j < k → likeL (opAt l j) x = false) → likeL (opAt l k) x = true → holdL l x = l.set k x := by
  induction l with
  | nil => intro k hk; simp at hk
  | cons y r ih =>
    intro k hk hno hyes
    cases k with
    | zero =>
      unfold holdL
      rw [if_pos (by simpa [opAt, List.getD] using hyes)]
      rfl
    | succ k =>
      have h0 := hno 0 (by omega)
      unfold holdL
      rw [if_neg (by simpa [opAt, List.getD] using h0), List.set_cons_succ, ih (by simpa using hk) (fun j hj => by simpa [opAt, List.getD] using hno (j + 1) (by omega)) (by simpa [opAt, List.getD] using hyes)]
theorem holdL_end {l : List Op3} {x : Op3} (h : ∀ j, j < l.length → likeL (opAt l j) x = false) : holdL l x = l ++ [x] := by
  induction l with
  | nil => rfl
  | cons y r ih =>
    have h0 := h 0 (by simp)
    unfold holdL
    rw [if_neg (by simpa [opAt, List.getD] using h0), ih fun j hj => by simpa [opAt, List.getD] using h (j + 1) (by simpa using hj)]
    rfl
/-- The blocks of a table. -/
def foot (T : Nat) (hv wv : Value) (k : Nat) : Prop := k = T ∨ hv.ownBlock = some k ∨ wv.ownBlock = some k
/-- The two slices of a table, put into a block's cells. -/
def put2 (cs : Array Value) (o : Nat) (hv wv : Value) : Array Value := (cs.setIfInBounds o hv).setIfInBounds (o + 1) wv
theorem put2_size (cs : Array Value) (o : Nat) (hv wv : Value) : (put2 cs o hv wv).size = cs.size := by simp [put2]
theorem put2_at (cs : Array Value) (o : Nat) (hv wv : Value) (k : Nat) : (put2 cs o hv wv)[k]? = if k = o + 1 then (if o + 1 < cs.size then some wv else none) else if k = o then (if o < cs.size then some hv else none) else cs[k]? := by
  unfold put2
  rw [Array.getElem?_setIfInBounds, Array.getElem?_setIfInBounds, Array.size_setIfInBounds]
  by_cases h1 : k = o + 1
  · subst h1; simp
  · by_cases h2 : k = o
    · subst h2; simp
    · rw [if_neg (fun e => h1 e.symm), if_neg (fun e => h2 e.symm), if_neg h1, if_neg h2]
theorem put2_put2 (cs : Array Value) (o : Nat) (a b c d : Value) : put2 (put2 cs o a b) o c d = put2 cs o c d := by
  refine Array.ext_getElem? fun k => ?_
  rw [put2_at, put2_at, put2_at, put2_size]
  split
  · rfl
  · split <;> rfl
theorem put2_same {cs : Array Value} {o : Nat} {hv wv : Value} (h0 : cs[o]? = some hv) (h1 : cs[o + 1]? = some wv) : put2 cs o hv wv = cs := by
  refine Array.ext_getElem? fun k => ?_
  have l0 := (Array.getElem?_eq_some_iff.1 h0).1
  have l1 := (Array.getElem?_eq_some_iff.1 h1).1
  rw [put2_at, if_pos l1, if_pos l0]
  split
  · rename_i e; simp [e, h1]
  · split
    · rename_i e; simp [e, h0]
    · rfl
theorem put2_0 {cs : Array Value} {o : Nat} {wv : Value} (v : Value) (h1 : cs[o + 1]? = some wv) : cs.setIfInBounds o v = put2 cs o v wv := by
  refine Array.ext_getElem? fun k => ?_
  have l1 := (Array.getElem?_eq_some_iff.1 h1).1
  rw [put2_at, Array.getElem?_setIfInBounds]
  by_cases h2 : k = o + 1
  · subst h2
    rw [if_neg (by omega), if_pos rfl, if_pos l1, h1]
  · by_cases h3 : k = o
    · subst h3; simp
    · rw [if_neg (fun e => h3 e.symm), if_neg h2, if_neg h3]
theorem put2_1 {cs : Array Value} {o : Nat} {hv : Value} (v : Value) (h0 : cs[o]? = some hv) : cs.setIfInBounds (o + 1) v = put2 cs o hv v := by
  refine Array.ext_getElem? fun k => ?_
  have l0 := (Array.getElem?_eq_some_iff.1 h0).1
  rw [put2_at, Array.getElem?_setIfInBounds]
  by_cases h2 : k = o + 1
  · subst h2; simp
  · rw [if_neg (fun e => h2 e.symm), if_neg h2]
    by_cases h3 : k = o
    · subst h3
      rw [if_pos rfl, if_pos l0, h0]
    · rw [if_neg h3]
/-- A table in memory: in a block, from cell o on, two slices, each with a row of its own. -/
structure TabAt (w : World) (ty : TypeId) (T o : Nat) (cs : Array Value) (hv wv : Value) (s : Tab2) : Prop where
  blk : w.heap[T]? = some (.cells cs ty (0, 0))
  at0 : cs[o]? = some hv
  at1 : cs[o + 1]? = some wv
  oh : w.ownsRow (T + 1) 67 3 hv s.1.length (flat s.1)
  ow : w.ownsRow (T + 1) 67 3 wv s.2.length (flat s.2)
  apart : ∀ g, hv.ownBlock = some g → wv.ownBlock = some g → False
section
variable {w w1 : World} {F : Nat → Prop} {ty : TypeId} {T o : Nat} {cs : Array Value} {hv wv v : Value} {s : Tab2}
theorem TabAt.lt (h : TabAt w ty T o cs hv wv s) : T < w.heap.size := (Array.getElem?_eq_some_iff.1 h.blk).1
theorem TabAt.c0 (h : TabAt w ty T o cs hv wv s) : w.cell? ⟨T, o, none⟩ = some hv := by rw [cell_of_row w T _ _ _ _ h.blk]; exact h.at0
theorem TabAt.c1 (h : TabAt w ty T o cs hv wv s) : w.cell? ⟨T, o + 1, none⟩ = some wv := by rw [cell_of_row w T _ _ _ _ h.blk]; exact h.at1
theorem TabAt.thaw (h : TabAt w ty T o cs hv wv s) (k : Nat) : w.frozen? ⟨T, k, none⟩ = false := by simp [World.frozen?, h.blk]
theorem TabAt.foot_lt (h : TabAt w ty T o cs hv wv s) {k : Nat} (hk : foot T hv wv k) : T ≤ k ∧ k < w.heap.size := by
  have := h.lt
  rcases hk with rfl | hk | hk
  · omega
  · have := h.oh.lt k hk; omega
  · have := h.ow.lt k hk; omega
theorem TabAt.turn (h : TabAt w ty T o cs hv wv s) (ht : Turns F w w1) (hF : ∀ k, foot T hv wv k → ¬ F k) : TabAt w1 ty T o cs hv wv s :=
  ⟨(ht.block T h.lt (hF T (.inl rfl))).trans h.blk, h.at0, h.at1, ht.own h.oh fun g hg => hF g (.inr (.inl hg)), ht.own h.ow fun g hg => hF g (.inr (.inr hg)), h.apart⟩
theorem TabAt.below (h : TabAt w ty T o cs hv wv s) (hb : Below w.heap.size w w1) : TabAt w1 ty T o cs hv wv s := h.turn (Turns.of_below (F := fun _ => False) hb) fun _ _ hf => hf
theorem TabAt.held (h : TabAt w ty T o cs hv wv s) : IsOps w hv s.1 := isOps_row h.oh rfl
theorem TabAt.waits (h : TabAt w ty T o cs hv wv s) : IsOps w wv s.2 := isOps_row h.ow rfl
theorem TabAt.put (h : TabAt w ty T o cs hv wv s) : put2 cs o hv wv = cs := put2_same h.at0 h.at1
theorem at_put0 {a b : Value} (h : o + 1 < cs.size) : (put2 cs o a b)[o]? = some a := by rw [put2_at, if_neg (by omega), if_pos rfl, if_pos (by omega)]
theorem at_put1 {a b : Value} (h : o + 1 < cs.size) : (put2 cs o a b)[o + 1]? = some b := by rw [put2_at, if_pos rfl, if_pos h]
theorem TabAt.room (h : TabAt w ty T o cs hv wv s) : o + 1 < cs.size := (Array.getElem?_eq_some_iff.1 h.at1).1
/-- A call on a table: what it is then, and what has turned. -/
def TabStep (w w' : World) (ty : TypeId) (T o : Nat) (cs : Array Value) (hv wv : Value) (s : Tab2) : Prop := ∃ hv' wv', TabAt w' ty T o (put2 cs o hv' wv') hv' wv' s ∧ Turns (foot T hv wv) w w' ∧ ∀ k, foot T hv' wv' k → foot T hv wv k ∨ w.heap.size ≤ k
theorem TabStep.same (h : TabAt w ty T o cs hv wv s) (hb : Below w.heap.size w w1) : TabStep w w1 ty T o cs hv wv s := ⟨hv, wv, by rw [h.put]; exact h.below hb, Turns.of_below hb, fun _ hk => .inl hk⟩
theorem TabStep.trans {w2 : World} {hv1 wv1 a b : Value} {s2 : Tab2} (ht : Turns (foot T hv wv) w w1) (hf : ∀ k, foot T hv1 wv1 k → foot T hv wv k ∨ w.heap.size ≤ k) (h2 : TabStep w1 w2 ty T o (put2 cs o a b) hv1 wv1 s2) : TabStep w w2 ty T o cs hv wv s2 := by
  obtain ⟨hv2, wv2, h3, h4, h5⟩ := h2
  rw [put2_put2] at h3
  refine ⟨hv2, wv2, h3, ht.trans h4 fun k hk hk2 => ?_, fun k hk => ?_⟩
  · rcases hf k hk2 with h | h
    · exact h
    · omega
  · rcases h5 k hk with h | h
    · exact hf k h
    · exact .inr (Nat.le_trans ht.size h)
/-- Behind steps that turned nothing of it. -/
theorem TabStep.later {w2 : World} {s2 : Tab2} (ht : Turns (foot T hv wv) w w1) (h2 : TabStep w1 w2 ty T o cs hv wv s2) : TabStep w w2 ty T o cs hv wv s2 := by
  obtain ⟨hv2, wv2, h3, h4, h5⟩ := h2
  refine ⟨hv2, wv2, h3, ht.trans h4 fun _ _ hk => hk, fun k hk => ?_⟩
  rcases h5 k hk with h | h
  · exact .inl h
  · exact .inr (Nat.le_trans ht.size h)
theorem block_set {k : Nat} {u : Value} (h : w.heap[T]? = some (.cells cs ty (0, 0))) : (w.setCell ⟨T, k, none⟩ u).heap[T]? = some (.cells (cs.setIfInBounds k u) ty (0, 0)) := by
  unfold World.setCell
  simp [Array.getElem?_modify, h]
/-- The row of those that are held is another one, in a block of its own. -/
theorem tab_set0 {l : List Op3} (h : TabAt w ty T o cs hv wv s) (ht : Turns (fun k => hv.ownBlock = some k) w w1) (ho : w1.ownsRow (T + 1) 67 3 v l.length (flat l)) (hv1 : ∀ g, v.ownBlock = some g → hv.ownBlock = some g ∨ w.heap.size ≤ g) : TabStep w (w1.setCell ⟨T, o, none⟩ v) ty T o cs hv wv (l, s.2) := by
  have hl := h.lt
  have hT : w1.heap[T]? = some (.cells cs ty (0, 0)) := (ht.block T hl (fun e => by have := (h.oh.lt T e).1; omega)).trans h.blk
  refine ⟨v, wv, ⟨?_, at_put0 h.room, at_put1 h.room, ownsRow_setCell_below ho (by show T < T + 1; omega) _, ?_, fun g h1 h2 => ?_⟩, (ht.mono fun k _ e => .inr (.inl e)).setCell (.inl (.inl rfl)) _, fun k hk => ?_⟩
  · rw [block_set hT, put2_0 v h.at1]
  · exact ownsRow_setCell_below (ht.own h.ow fun g hg e => h.apart g e hg) (by show T < T + 1; omega) _
  · rcases hv1 g h1 with h3 | h3
    · exact h.apart g h3 h2
    · have := (h.ow.lt g h2).2; omega
  · rcases hk with hk | hk | hk
    · exact .inl (.inl hk)
    · rcases hv1 k hk with h3 | h3
      · exact .inl (.inr (.inl h3))
      · exact .inr h3
    · exact .inl (.inr (.inr hk))
/-- The same of those that wait. -/
theorem tab_set1 {l : List Op3} (h : TabAt w ty T o cs hv wv s) (ht : Turns (fun k => wv.ownBlock = some k) w w1) (ho : w1.ownsRow (T + 1) 67 3 v l.length (flat l)) (hv1 : ∀ g, v.ownBlock = some g → wv.ownBlock = some g ∨ w.heap.size ≤ g) : TabStep w (w1.setCell ⟨T, o + 1, none⟩ v) ty T o cs hv wv (s.1, l) := by
  have hl := h.lt
  have hT : w1.heap[T]? = some (.cells cs ty (0, 0)) := (ht.block T hl (fun e => by have := (h.ow.lt T e).1; omega)).trans h.blk
  refine ⟨hv, v, ⟨?_, at_put0 h.room, at_put1 h.room, ?_, ownsRow_setCell_below ho (by show T < T + 1; omega) _, fun g h1 h2 => ?_⟩, (ht.mono fun k _ e => .inr (.inr e)).setCell (.inl (.inl rfl)) _, fun k hk => ?_⟩
  · rw [block_set hT, put2_1 v h.at0]
  · exact ownsRow_setCell_below (ht.own h.oh fun g hg e => h.apart g hg e) (by show T < T + 1; omega) _
  · rcases hv1 g h2 with h3 | h3
    · exact h.apart g h1 h3
    · have := (h.oh.lt g h1).2; omega
  · rcases hk with hk | hk | hk
    · exact .inl (.inl hk)
    · exact .inl (.inr (.inl hk))
    · rcases hv1 k hk with h3 | h3
      · exact .inl (.inr (.inr h3))
      · exact .inr h3
/-- The same, its slices named: those that wait are none. -/
theorem tab_none1 (h : TabAt w ty T o cs hv wv s) (hb : Below w.heap.size w w1) : TabAt (w1.setCell ⟨T, o + 1, none⟩ (.slice none 0 0)) ty T o (put2 cs o hv (.slice none 0 0)) hv (.slice none 0 0) (s.1, []) ∧ Turns (foot T hv wv) w (w1.setCell ⟨T, o + 1, none⟩ (.slice none 0 0)) := by
  have hl := h.lt
  have hT : w1.heap[T]? = some (.cells cs ty (0, 0)) := (hb.block T hl).trans h.blk
  refine ⟨⟨?_, at_put0 h.room, at_put1 h.room, ownsRow_setCell_below ((Turns.of_below (F := fun _ => False) hb).own h.oh fun _ _ hf => hf) (by show T < T + 1; omega) _, World.ownsRow_nil _ _ _ _, fun g _ h2 => by simp [Value.ownBlock] at h2⟩, (Turns.of_below hb).setCell (.inl (.inl rfl)) _⟩
  rw [block_set hT, put2_1 _ h.at0]
/-- A lock that is held is another one. -/
theorem tab_put {g n c : Nat} (h : TabAt w ty T o cs (.slice (some ⟨g, 0, none⟩) n c) wv s) (hn : s.1.length = n) {k : Nat} (hk : k < n) (x : Op3) :
    TabStep w (((w.setCell ⟨g, k * 3, none⟩ (.int .i64 x.1)).setCell ⟨g, k * 3 + 1, none⟩ (.int .i64 x.2.1)).setCell ⟨g, k * 3 + 2, none⟩ (.int .i64 x.2.2)) ty T o cs (.slice (some ⟨g, 0, none⟩) n c) wv (s.1.set k x, s.2) := by
  have hl := h.lt
  have hg := (h.oh.lt g rfl).1
  have hoh := h.oh
  rw [hn] at hoh
  have ht : Turns (fun j => j = g) w (((w.setCell ⟨g, k * 3, none⟩ (.int .i64 x.1)).setCell ⟨g, k * 3 + 1, none⟩ (.int .i64 x.2.1)).setCell ⟨g, k * 3 + 2, none⟩ (.int .i64 x.2.2)) := by
    refine Turns.setCell (Turns.setCell (Turns.setCell (Turns.refl _ w) ?_ _) ?_ _) ?_ _ <;> exact .inl rfl
  refine ⟨_, wv, ⟨by rw [h.put]; exact (ht.block T hl (by omega)).trans h.blk, at_put0 h.room, at_put1 h.room, ?_, ht.own h.ow fun j hj e => h.apart j (by rw [e]; rfl) hj, h.apart⟩, ht.mono fun j _ e => .inr (.inl (by rw [e]; rfl)), fun j hj => .inl hj⟩
  simp only [List.length_set]
  rw [hn]
  exact own_put3 hoh hn hk x
/-- Behind an append to a row. -/
theorem turn_grown {w2 : World} {obj : Obj} (hgr : (w.drew.alloc obj).grownBy w2 hv.ownBlock) : Turns (fun k => hv.ownBlock = some k) w w2 :=
  ((Turns.refl _ w).drew.alloc obj).grown hgr fun _ hk => .inl hk
end
end Go.Proofs.YtjaeaanpbdmfgaeGreatDoor

namespace Go.Proofs.YtjaeaanpbdmfgaeGreatDoor
open Go.RowKit

theorem row_less {w : World} {base base2 e size n : Nat} {v : Value} {xs : List Value} (h : w.ownsRow base e size v n xs) (hb : base2 ≤ base) : w.ownsRow base2 e size v n xs := by
  obtain ⟨hl, hd | ⟨g, cap, cur, hv, hbg, hg, hn, hm, hsz, htk⟩⟩ := h
  · exact ⟨hl, .inl hd⟩
  · exact ⟨hl, .inr ⟨g, cap, cur, hv, Nat.le_trans hb hbg, hg, hn, hm, hsz, htk⟩⟩
theorem run_append_apart {P : Program} (w : World) (base : Nat) (t ty e : TypeId) (i : TypeInfo) (z : Value) (size bytes : Nat) (ht : P.underlying t = some (.slice e)) (hi : P.info? e = some i) (hz : i.zero = some z)
    (hsize : i.size = size) (hby : i.bytes = bytes) (hzs : z.cells.size = size) (hsz : 0 < size)
    (v : Value) (n : Nat) (xs : List Value) (hown : w.ownsRow base e size v n xs)
    (a : Addr) (m c : Nat) (news : List Value) (hl : news.length = m * size) (hnews : ∀ j u, news[j]? = some u → w.cell? (a.add j) = some u) (h1 : ∀ u ∈ news, u.oneCell' = true)
    (h63 : n + m ≤ maxLen) (hbytes : (n + m) * bytes ≤ 140737488355328) (hbase : base ≤ w.heap.size) :
    ∃ v' w', (Builtin.append_ #[t, t] ty #[v, .slice (some a) m c]).run P w = .ok v' w' ∧ w'.ownsRow base e size v' (n + m) (xs ++ news) ∧ w.grownBy w' v.ownBlock ∧
      ∀ g, v'.ownBlock = some g → v.ownBlock = some g ∨ w.heap.size ≤ g := by
  have hown' := hown
  rcases hown.2 with ⟨rfl, rfl⟩ | ⟨g, cap, cur, rfl, hbg, hg, hnc, hcm, hcs, htake⟩
  · have hx : xs = [] := List.eq_nil_of_length_eq_zero (by simpa using hown.1)
    subst hx
    obtain ⟨v', w', hr, ho, hgr, -⟩ := run_append_own (P := P) w w.heap.size t ty e i z size bytes ht hi hz hsize hby hzs hsz (.slice none 0 0) 0 [] (World.ownsRow_nil w _ e size) a m c news hl hnews h1 h63 hbytes (Nat.le_refl _)
    exact ⟨v', w', hr, row_less ho hbase, hgr, fun g hg => .inr (ho.lt g hg).1⟩
  · by_cases hroom : n + m ≤ cap
    · obtain ⟨v', w', hr, ho, hgr, -⟩ := run_append_own (P := P) w base t ty e i z size bytes ht hi hz hsize hby hzs hsz (.slice (some ⟨g, 0, none⟩) n cap) n xs hown' a m c news hl hnews h1 h63 hbytes hbase
      subst hsize
      have hfit : n * i.size + news.length ≤ cur.size := by rw [hl, hcs, ← Nat.add_mul]; exact Nat.mul_le_mul_right _ hroom
      have hr2 := run_append_room (P := P) w t ty e i ht hi g n cap cur hg a m c news hl hnews h1 hroom hfit
      rw [hr2] at hr
      injection hr with e1 e2
      subst e1
      exact ⟨_, w', by rw [hr2, e2], ho, hgr, fun q hq => .inl (by simpa [Value.ownBlock] using hq)⟩
    · obtain ⟨v', w', hr, ho, hgr⟩ := run_append_arg_grows (P := P) w t ty e i z size bytes ht hi hz hsize hby hzs hsz ⟨g, 0, none⟩ n cap xs hown.1 (hown.cells (g := g) rfl) a m c news hl hnews (by omega) h63 hbytes
      exact ⟨v', w', hr, row_less ho hbase, ⟨hgr.os, hgr.tape, hgr.output, hgr.size, fun k hk _ => hgr.block k hk (by simp)⟩, fun q hq => .inr (ho.lt q hq).1⟩
theorem wp_append_apart {P : Program} {o : Oper} {a : Act} (w : World) {K : Act → World → Prop} {Q : Exit → Act → World → Prop} (s x : Operand) (t : TypeId)
    (ho : o.op = .call { callee := .builtin .append, args := #[s, x], argTypes := #[t, t] })
    (base : Nat) (e : TypeId) (i : TypeInfo) (z : Value) (size bytes : Nat) (ht : P.underlying t = some (.slice e)) (hi : P.info? e = some i) (hz : i.zero = some z)
    (hsize : i.size = size) (hby : i.bytes = bytes) (hzs : z.cells.size = size) (hsz : 0 < size)
    (v : Value) (n : Nat) (xs : List Value) (hs : a.eval s = v) (hown : w.ownsRow base e size v n xs)
    (ad : Addr) (m c : Nat) (news : List Value) (hx : a.eval x = .slice (some ad) m c) (hl : news.length = m * size) (hnews : ∀ j u, news[j]? = some u → w.cell? (ad.add j) = some u) (h1 : ∀ u ∈ news, u.oneCell' = true)
    (h63 : n + m ≤ maxLen) (hbytes : (n + m) * bytes ≤ 140737488355328) (hbase : base ≤ w.heap.size)
    (h : ∀ v' w', w'.ownsRow base e size v' (n + m) (xs ++ news) → w.grownBy w' v.ownBlock → (∀ g, v'.ownBlock = some g → v.ownBlock = some g ∨ w.heap.size ≤ g) → K (a.put o.dst v') w') : o.wp P a w K Q := by
  obtain ⟨v', w', hr, h2, h3, h4⟩ := run_append_apart (P := P) w base t o.type e i z size bytes ht hi hz hsize hby hzs hsz v n xs hown ad m c news hl hnews h1 h63 hbytes hbase
  unfold Oper.wp execOp
  simp only [ho, resolve, invoke, builtin, Sem.run_bind, Sem.run_pure, Result.andThen_ok, List.map_toArray, List.map_cons, List.map_nil, hs, hx, hr]
  exact h v' w' h2 h3 h4
/-- As one step of a region that draws. -/
theorem step_append_apart {P : Program} {ops : Array Oper} {o : Oper} {a : Act} {w : World} {K : Act → World → Prop} {Q : Exit → Act → World → Prop} {E : Prop}
    (hgd : o.guard = none) (s x : Operand) (t : TypeId) (ho : o.op = .call { callee := .builtin .append, args := #[s, x], argTypes := #[t, t] })
    (base : Nat) (e : TypeId) (i : TypeInfo) (z : Value) (size bytes : Nat) (ht : P.underlying t = some (.slice e)) (hi : P.info? e = some i) (hz : i.zero = some z)
    (hsize : i.size = size) (hby : i.bytes = bytes) (hzs : z.cells.size = size) (hsz : 0 < size)
    (v : Value) (n : Nat) (xs : List Value) (hs : a.eval s = v) (hown : w.ownsRow base e size v n xs)
    (ad : Addr) (m c : Nat) (news : List Value) (hx : a.eval x = .slice (some ad) m c) (hl : news.length = m * size) (hnews : ∀ j u, news[j]? = some u → w.cell? (ad.add j) = some u) (h1 : ∀ u ∈ news, u.oneCell' = true)
    (h63 : n + m ≤ maxLen) (hbytes : (n + m) * bytes ≤ 140737488355328) (hbase : base ≤ w.heap.size)
    (h : ∀ v' w', w'.ownsRow base e size v' (n + m) (xs ++ news) → w.grownBy w' v.ownBlock → (∀ g, v'.ownBlock = some g → v.ownBlock = some g ∨ w.heap.size ≤ g) → K (a.put o.dst v') w') :
    if Region.wanted o (yielded ops a.tmps) = true then Oper.wp P o a w K Q else E := by
  have hw : Region.wanted o (yielded ops a.tmps) = true := by simp [Region.wanted, hgd]
  rw [if_pos hw]
  exact wp_append_apart w s x t ho base e i z size bytes ht hi hz hsize hby hzs hsz v n xs hs hown ad m c news hx hl hnews h1 h63 hbytes hbase h
/-- As an operation of a region in the text's order. -/
theorem wpList_append_apart {P : Program} (w : World) {ops : Array Oper} {rest : List Oper} {o : Oper} {a : Act} {Q : Exit → Act → World → Prop} (hgd : o.guard = none) (s x : Operand) (t : TypeId)
    (ho : o.op = .call { callee := .builtin .append, args := #[s, x], argTypes := #[t, t] })
    (base : Nat) (e : TypeId) (i : TypeInfo) (z : Value) (size bytes : Nat) (ht : P.underlying t = some (.slice e)) (hi : P.info? e = some i) (hz : i.zero = some z)
    (hsize : i.size = size) (hby : i.bytes = bytes) (hzs : z.cells.size = size) (hsz : 0 < size)
    (v : Value) (n : Nat) (xs : List Value) (hs : a.eval s = v) (hown : w.ownsRow base e size v n xs)
    (ad : Addr) (m c : Nat) (news : List Value) (hx : a.eval x = .slice (some ad) m c) (hl : news.length = m * size) (hnews : ∀ j u, news[j]? = some u → w.cell? (ad.add j) = some u) (h1 : ∀ u ∈ news, u.oneCell' = true)
    (h63 : n + m ≤ maxLen) (hbytes : (n + m) * bytes ≤ 140737488355328) (hbase : base ≤ w.heap.size)
    (h : ∀ v' w', w'.ownsRow base e size v' (n + m) (xs ++ news) → w.grownBy w' v.ownBlock → (∀ g, v'.ownBlock = some g → v.ownBlock = some g ∨ w.heap.size ≤ g) → wpList P ops Q rest (a.put o.dst v') w') : wpList P ops Q (o :: rest) a w :=
  wpList_plain hgd fun _ hK => wp_append_apart w s x t ho base e i z size bytes ht hi hz hsize hby hzs hsz v n xs hs hown ad m c news hx hl hnews h1 h63 hbytes hbase fun v' w' h2 h3 h4 => hK _ _ (h v' w' h2 h3 h4)
theorem apart_later {w : World} {o : Obj} {v v' : Value} (h : ∀ g, v'.ownBlock = some g → v.ownBlock = some g ∨ (w.drew.alloc o).heap.size ≤ g) : ∀ g, v'.ownBlock = some g → v.ownBlock = some g ∨ w.heap.size ≤ g := fun g hg => by
  rcases h g hg with h | h
  · exact .inl h
  · have h2 : (w.drew.alloc o).heap.size = w.heap.size + 1 := by simp
    exact .inr (by omega)
end Go.Proofs.YtjaeaanpbdmfgaeGreatDoor

namespace Go.Proofs.YtjaeaanpbdmfgaeGreatDoor
open Go.RowKit

/-- A slice that shows a piece of a row of one's own. -/
def Tail (w : World) (base : Nat) (e : TypeId) (size : Nat) (v : Value) (n : Nat) (xs : List Value) : Prop :=
  xs.length = n * size ∧ ((v = .slice none 0 0 ∧ n = 0) ∨ ∃ g off cap cur, v = .slice (some ⟨g, off, none⟩) n cap ∧ base ≤ g ∧ w.heap[g]? = some (.cells cur e (0, 0)) ∧ n ≤ cap ∧ off + cap * size ≤ cur.size ∧ ∀ j u, xs[j]? = some u → w.cell? ⟨g, off + j, none⟩ = some u)
theorem tail_nil (w : World) (base : Nat) (e : TypeId) (size : Nat) : Tail w base e size (.slice none 0 0) 0 [] := ⟨by simp, .inl ⟨rfl, rfl⟩⟩
theorem tail_of_own {w : World} {base e size n : Nat} {v : Value} {xs : List Value} (h : w.ownsRow base e size v n xs) : Tail w base e size v n xs := by
  have h' := h
  obtain ⟨hl, hd | ⟨g, cap, cur, hv, hbg, hg, hn, hm, hsz, htk⟩⟩ := h
  · exact ⟨hl, .inl hd⟩
  · refine ⟨hl, .inr ⟨g, 0, cap, cur, hv, hbg, hg, hn, by omega, fun j u hj => ?_⟩⟩
    have := h'.cells (g := g) (by rw [hv]; rfl) j u hj
    rw [Addr.add_lit] at this
    exact this
theorem Tail.lt {w : World} {base e size n : Nat} {v : Value} {xs : List Value} (h : Tail w base e size v n xs) : ∀ k, v.ownBlock = some k → base ≤ k ∧ k < w.heap.size := by
  intro k hk
  obtain ⟨_, ⟨hv, _⟩ | ⟨g, off, cap, cur, hv, hbg, hg, _⟩⟩ := h
  · rw [hv] at hk; simp [Value.ownBlock] at hk
  · rw [hv] at hk
    simp only [Value.ownBlock, Option.some.injEq] at hk
    subst hk
    exact ⟨hbg, (Array.getElem?_eq_some_iff.1 hg).1⟩
theorem Tail.less {w : World} {base base2 e size n : Nat} {v : Value} {xs : List Value} (h : Tail w base e size v n xs) (hb : base2 ≤ base) : Tail w base2 e size v n xs := by
  obtain ⟨hl, hd | ⟨g, off, cap, cur, hv, hbg, h1⟩⟩ := h
  · exact ⟨hl, .inl hd⟩
  · exact ⟨hl, .inr ⟨g, off, cap, cur, hv, Nat.le_trans hb hbg, h1⟩⟩
theorem Tail.same {w w1 : World} {base e size n : Nat} {v : Value} {xs : List Value} (h : Tail w base e size v n xs) (hb : ∀ g, v.ownBlock = some g → w1.heap[g]? = w.heap[g]?) : Tail w1 base e size v n xs := by
  obtain ⟨hl, hd | ⟨g, off, cap, cur, hv, hbg, hg, hn, hsz, hc⟩⟩ := h
  · exact ⟨hl, .inl hd⟩
  · have he := hb g (by rw [hv]; rfl)
    exact ⟨hl, .inr ⟨g, off, cap, cur, hv, hbg, he.trans hg, hn, hsz, fun j u hj => (World.cell?_of_block (a := ⟨g, off + j, none⟩) he).trans (hc j u hj)⟩⟩
theorem block_setCells (b : Nat) : ∀ (vs : List Value) (o : Nat) (w : World) (cur : Array Value) (e : TypeId), w.heap[b]? = some (.cells cur e (0, 0)) → ∃ cur', (w.setCells b o vs).heap[b]? = some (.cells cur' e (0, 0)) ∧ cur'.size = cur.size
  | [], _, _, cur, _, h => ⟨cur, h, rfl⟩
  | v :: r, o, w, cur, e, h => by
    obtain ⟨cur', h1, h2⟩ := block_setCells b r (o + 1) (w.setCell ⟨b, o, none⟩ v) (cur.setIfInBounds o v) e (by unfold World.setCell; simp [Array.getElem?_modify, h])
    exact ⟨cur', h1, by simpa using h2⟩
theorem grown_setCells (b : Nat) : ∀ (vs : List Value) (o : Nat) (w : World), w.grownBy (w.setCells b o vs) (some b)
  | [], _, w => ⟨rfl, rfl, rfl, Nat.le_refl _, fun _ _ _ => rfl⟩
  | v :: r, o, w => by
    have h := grown_setCells b r (o + 1) (w.setCell ⟨b, o, none⟩ v)
    refine ⟨h.os, h.tape, h.output, ?_, fun k hk hne => ?_⟩
    · have h2 := h.size
      have h3 : (w.setCell ⟨b, o, none⟩ v).heap.size = w.heap.size := by simp
      show w.heap.size ≤ ((w.setCell ⟨b, o, none⟩ v).setCells b (o + 1) r).heap.size
      omega
    · exact (h.block k (by simpa using hk) hne).trans (Below.heap_setCell w ⟨b, o, none⟩ v k (fun e => hne (by rw [e])))
theorem run_append_tail {P : Program} (w : World) (base : Nat) (t ty e : TypeId) (i : TypeInfo) (z : Value) (size bytes : Nat) (ht : P.underlying t = some (.slice e)) (hi : P.info? e = some i) (hz : i.zero = some z)
    (hsize : i.size = size) (hby : i.bytes = bytes) (hzs : z.cells.size = size) (hsz : 0 < size)
    (v : Value) (n : Nat) (xs : List Value) (hown : Tail w base e size v n xs)
    (a : Addr) (m c : Nat) (news : List Value) (hl : news.length = m * size) (hnews : ∀ j u, news[j]? = some u → w.cell? (a.add j) = some u) (h1 : ∀ u ∈ news, u.oneCell' = true)
    (h63 : n + m ≤ maxLen) (hbytes : (n + m) * bytes ≤ 140737488355328) (hbase : base ≤ w.heap.size) :
    ∃ v' w', (Builtin.append_ #[t, t] ty #[v, .slice (some a) m c]).run P w = .ok v' w' ∧ Tail w' base e size v' (n + m) (xs ++ news) ∧ w.grownBy w' v.ownBlock ∧
      ∀ g, v'.ownBlock = some g → v.ownBlock = some g ∨ w.heap.size ≤ g := by
  have hown' := hown
  obtain ⟨hxl, ⟨rfl, rfl⟩ | ⟨g, off, cap, cur, rfl, hbg, hg, hnc, hcs, hcell⟩⟩ := hown
  · have hx : xs = [] := List.eq_nil_of_length_eq_zero (by simpa using hxl)
    subst hx
    obtain ⟨v', w', hr, ho, hgr, -⟩ := run_append_own (P := P) w w.heap.size t ty e i z size bytes ht hi hz hsize hby hzs hsz (.slice none 0 0) 0 [] (World.ownsRow_nil w _ e size) a m c news hl hnews h1 h63 hbytes (Nat.le_refl _)
    exact ⟨v', w', hr, (tail_of_own ho).less hbase, hgr, fun g hg => .inr (ho.lt g hg).1⟩
  · by_cases hroom : n + m ≤ cap
    · subst hsize
      have hfit : n * i.size + news.length ≤ cap * i.size := by rw [hl, ← Nat.add_mul]; exact Nat.mul_le_mul_right _ hroom
      have hcells : ∀ j, j < news.length → (w.cell? ⟨g, off + n * i.size + j, none⟩).isSome = true := fun j hj => by
        rw [cell_of_row w g _ _ _ _ hg, Array.getElem?_eq_getElem (by omega)]
        rfl
      have hr := run_append_room_cells (P := P) w t ty e i ht hi g off n cap a m c news hl hnews h1 hroom hcells (fun j _ => by simp [World.frozen?, hg])
      obtain ⟨cur', hg', hsz'⟩ := block_setCells g news (off + n * i.size) w cur e hg
      refine ⟨_, _, hr, ⟨by rw [List.length_append, hxl, hl, Nat.add_mul], .inr ⟨g, off, cap, cur', rfl, hbg, hg', hroom, by omega, fun j u hj => ?_⟩⟩, grown_setCells g news _ w, fun q hq => .inl (by simpa [Value.ownBlock] using hq)⟩
      rcases Nat.lt_or_ge j xs.length with hjx | hjx
      · rw [List.getElem?_append_left hjx] at hj
        rw [World.cell?_setCells_out g news _ w _ (fun _ _ => .inl (by simp; omega))]
        exact hcell j u hj
      · rw [List.getElem?_append_right hjx] at hj
        have hjn := (List.getElem?_eq_some_iff.1 hj)
        obtain ⟨hjl, hju⟩ := hjn
        have := World.cell?_setCells_in g news (off + n * i.size) w hcells (j - xs.length) hjl
        rw [show off + n * i.size + (j - xs.length) = off + j by omega, hju] at this
        exact this
    · obtain ⟨v', w', hr, ho, hgr⟩ := run_append_arg_grows (P := P) w t ty e i z size bytes ht hi hz hsize hby hzs hsz ⟨g, off, none⟩ n cap xs hxl (fun j u hj => by rw [Addr.add_lit]; exact hcell j u hj) a m c news hl hnews (by omega) h63 hbytes
      exact ⟨v', w', hr, (tail_of_own ho).less hbase, ⟨hgr.os, hgr.tape, hgr.output, hgr.size, fun k hk _ => hgr.block k hk (by simp)⟩, fun q hq => .inr (ho.lt q hq).1⟩
/-- As one step of a region that draws. -/
theorem step_append_tail {P : Program} {ops : Array Oper} {o : Oper} {a : Act} {w : World} {K : Act → World → Prop} {Q : Exit → Act → World → Prop} {E : Prop}
    (hgd : o.guard = none) (s x : Operand) (t : TypeId) (ho : o.op = .call { callee := .builtin .append, args := #[s, x], argTypes := #[t, t] })
    (base : Nat) (e : TypeId) (i : TypeInfo) (z : Value) (size bytes : Nat) (ht : P.underlying t = some (.slice e)) (hi : P.info? e = some i) (hz : i.zero = some z)
    (hsize : i.size = size) (hby : i.bytes = bytes) (hzs : z.cells.size = size) (hsz : 0 < size)
    (v : Value) (n : Nat) (xs : List Value) (hs : a.eval s = v) (hown : Tail w base e size v n xs)
    (ad : Addr) (m c : Nat) (news : List Value) (hx : a.eval x = .slice (some ad) m c) (hl : news.length = m * size) (hnews : ∀ j u, news[j]? = some u → w.cell? (ad.add j) = some u) (h1 : ∀ u ∈ news, u.oneCell' = true)
    (h63 : n + m ≤ maxLen) (hbytes : (n + m) * bytes ≤ 140737488355328) (hbase : base ≤ w.heap.size)
    (h : ∀ v' w', Tail w' base e size v' (n + m) (xs ++ news) → w.grownBy w' v.ownBlock → (∀ g, v'.ownBlock = some g → v.ownBlock = some g ∨ w.heap.size ≤ g) → K (a.put o.dst v') w') :
    if Region.wanted o (yielded ops a.tmps) = true then Oper.wp P o a w K Q else E := by
  have hw : Region.wanted o (yielded ops a.tmps) = true := by simp [Region.wanted, hgd]
  rw [if_pos hw]
  obtain ⟨v', w', hr, h2, h3, h4⟩ := run_append_tail (P := P) w base t o.type e i z size bytes ht hi hz hsize hby hzs hsz v n xs hown ad m c news hl hnews h1 h63 hbytes hbase
  unfold Oper.wp execOp
  simp only [ho, resolve, invoke, builtin, Sem.run_bind, Sem.run_pure, Result.andThen_ok, List.map_toArray, List.map_cons, List.map_nil, hs, hx, hr]
  exact h v' w' h2 h3 h4
/-- s = s[1:]. -/
theorem Tail.pop {w : World} {base e size n g off cap : Nat} {xs : List Value} (h : Tail w base e size (.slice (some ⟨g, off, none⟩) (n + 1) cap) (n + 1) xs) (ad : Addr) (ha : ad = ⟨g, off + size, none⟩ ∨ (cap = 1 ∧ ad = ⟨g, off, none⟩)) : Tail w base e size (.slice (some ad) n (cap - 1)) n (xs.drop size) := by
  obtain ⟨hxl, ⟨hv, _⟩ | ⟨g2, off2, cap2, cur, hv, hbg, hg, hnc, hcs, hcell⟩⟩ := h
  · cases hv
  · simp only [Value.slice.injEq, Option.some.injEq, Addr.mk.injEq, and_true, true_and] at hv
    obtain ⟨⟨rfl, rfl⟩, rfl⟩ := hv
    refine ⟨by rw [List.length_drop, hxl, Nat.add_mul]; omega, .inr ?_⟩
    have hcap : (cap - 1) * size + size = cap * size := by
      have : cap = (cap - 1) + 1 := by omega
      rw [this]
      simp [Nat.add_mul]
    rcases ha with rfl | ⟨rfl, rfl⟩
    · refine ⟨g, off + size, cap - 1, cur, rfl, hbg, hg, by omega, by omega, fun j u hj => ?_⟩
      rw [List.getElem?_drop] at hj
      rw [Nat.add_assoc]
      exact hcell _ u hj
    · obtain rfl : n = 0 := by omega
      refine ⟨g, off, 0, cur, rfl, hbg, hg, Nat.le_refl _, by simp at hcs ⊢; omega, fun j u hj => ?_⟩
      rw [List.getElem?_drop, List.getElem?_eq_none (by omega)] at hj
      cases hj
end Go.Proofs.YtjaeaanpbdmfgaeGreatDoor

namespace Go.Proofs.YtjaeaanpbdmfgaeGreatDoor
open Go.RowKit

/-- The place of a row's slice in the block: those that are held, those that wait, what is told, who was aborted, what stands behind. -/
def posR (i : Nat) : Nat := match i with | 0 => 1 | 1 => 2 | 2 => 45 | 3 => 46 | d + 4 => 31 + d
def rPart (way : Int) (W A : Int → Bool) (O : Int → Op3) (rv : Nat → Value) (k : Nat) : Value :=
  if k = 0 then .int .i64 way else if k = 1 then rv 0 else if k = 2 then rv 1 else if k < 10 then .bool (W ((k - 3 : Nat) : Int))
  else if k < 31 then (if (k - 10) % 3 = 0 then .int .i64 (O (((k - 10) / 3 : Nat) : Int)).1 else if (k - 10) % 3 = 1 then .int .i64 (O (((k - 10) / 3 : Nat) : Int)).2.1 else .int .i64 (O (((k - 10) / 3 : Nat) : Int)).2.2)
  else if k < 38 then rv (k - 31 + 4) else if k < 45 then .bool (A ((k - 38 : Nat) : Int)) else if k = 45 then rv 2 else rv 3
def cells47 (way : Int) (W A : Int → Bool) (O : Int → Op3) (rv : Nat → Value) : Array Value := ((List.range 47).map (rPart way W A O rv)).toArray
theorem cells47_size (way : Int) (W A : Int → Bool) (O : Int → Op3) (rv : Nat → Value) : (cells47 way W A O rv).size = 47 := by simp [cells47]
theorem cells47_at (way : Int) (W A : Int → Bool) (O : Int → Op3) (rv : Nat → Value) (k : Nat) (h : k < 47) : (cells47 way W A O rv)[k]? = some (rPart way W A O rv k) := by simp [cells47, h]
theorem cells47_ext {way : Int} {W A W' A' : Int → Bool} {O O' : Int → Op3} {rv rv' : Nat → Value} {u : Value} {p : Nat} (hp : p < 47) (hh : rPart way W' A' O' rv' p = u) (he : ∀ k, k < 47 → k ≠ p → rPart way W' A' O' rv' k = rPart way W A O rv k) : (cells47 way W A O rv).setIfInBounds p u = cells47 way W' A' O' rv' := by
  refine Array.ext_getElem? fun j => ?_
  by_cases hj : j < 47
  · rw [cells47_at _ _ _ _ _ j hj, Array.getElem?_setIfInBounds, cells47_size, cells47_at _ _ _ _ _ j hj]
    by_cases e : p = j
    · subst e; rw [if_pos rfl, if_pos hp, hh]
    · rw [if_neg e, he j hj (fun h => e h.symm)]
  · rw [Array.getElem?_eq_none (by simp [cells47_size]; omega), Array.getElem?_eq_none (by simp [cells47_size]; omega)]
def setV (rv : Nat → Value) (i : Nat) (v : Value) : Nat → Value := fun j => if j = i then v else rv j
theorem pos_lt {i : Nat} (h : i < 11) : posR i < 47 := by
  unfold posR
  split <;> omega
theorem rpart_row (way : Int) (W A : Int → Bool) (O : Int → Op3) (rv : Nat → Value) {i : Nat} (h : i < 11) : rPart way W A O rv (posR i) = rv i := by
  rcases (show i = 0 ∨ i = 1 ∨ i = 2 ∨ i = 3 ∨ i = 4 ∨ i = 5 ∨ i = 6 ∨ i = 7 ∨ i = 8 ∨ i = 9 ∨ i = 10 by omega) with rfl | rfl | rfl | rfl | rfl | rfl | rfl | rfl | rfl | rfl | rfl <;> rfl
theorem cells47_row (way : Int) (W A : Int → Bool) (O : Int → Op3) (rv : Nat → Value) {i : Nat} (h : i < 11) (v : Value) : (cells47 way W A O rv).setIfInBounds (posR i) v = cells47 way W A O (setV rv i v) := by
  refine cells47_ext (pos_lt h) (by rw [rpart_row _ _ _ _ _ h]; simp [setV]) fun k hk hne => ?_
  unfold rPart setV
  rcases (show i = 0 ∨ i = 1 ∨ i = 2 ∨ i = 3 ∨ 4 ≤ i by omega) with rfl | rfl | rfl | rfl | hi
  · simp [posR] at hne
    simp [hne]
  · simp [posR] at hne
    simp [hne]
  · simp [posR] at hne
    simp [hne]
  · simp [posR] at hne
    by_cases h1 : k < 31
    · simp [h1]
    · by_cases h2 : k < 38
      · simp [h1, h2, show ¬ k - 31 + 4 = 3 by omega]
      · by_cases h3 : k < 45
        · simp [h1, h2, h3]
        · rw [show k = 45 by omega]
          rfl
  · obtain ⟨d, rfl⟩ : ∃ d, i = d + 4 := ⟨i - 4, by omega⟩
    simp [posR] at hne
    by_cases h1 : k < 31
    · simp [h1]
    · by_cases h2 : k < 38
      · simp [h1, h2, show ¬ k - 31 = d by omega]
      · simp [h1, h2]
theorem cells47_waits (way : Int) (W A : Int → Bool) (O : Int → Op3) (rv : Nat → Value) {d : Nat} (h : d < 7) (x : Bool) : (cells47 way W A O rv).setIfInBounds (3 + d) (.bool x) = cells47 way (setF W d x) A O rv := by
  refine cells47_ext (by omega) ?_ fun k hk hne => ?_
  · unfold rPart setF
    rw [if_neg (by omega), if_neg (by omega), if_neg (by omega), if_pos (by omega), if_pos (by omega)]
  · unfold rPart setF
    by_cases h1 : k < 10
    · by_cases h2 : k < 3
      · rcases (show k = 0 ∨ k = 1 ∨ k = 2 by omega) with rfl | rfl | rfl <;> rfl
      · simp only [h1, if_true, show ¬ k = 0 by omega, show ¬ k = 1 by omega, show ¬ k = 2 by omega, if_false]
        rw [if_neg (by omega)]
    · simp [h1]
theorem cells47_out (way : Int) (W A : Int → Bool) (O : Int → Op3) (rv : Nat → Value) {d : Nat} (h : d < 7) (x : Bool) : (cells47 way W A O rv).setIfInBounds (38 + d) (.bool x) = cells47 way W (setF A d x) O rv := by
  refine cells47_ext (by omega) ?_ fun k hk hne => ?_
  · unfold rPart setF
    rw [if_neg (by omega), if_neg (by omega), if_neg (by omega), if_neg (by omega), if_neg (by omega), if_neg (by omega), if_pos (by omega), if_pos (by omega)]
  · unfold rPart setF
    by_cases h1 : k < 38
    · simp [h1]
    · by_cases h2 : k < 45
      · simp only [h1, h2, if_true, show ¬ k = 0 by omega, show ¬ k = 1 by omega, show ¬ k = 2 by omega, show ¬ k < 10 by omega, show ¬ k < 31 by omega, if_false]
        rw [if_neg (by omega)]
      · simp [h2]
theorem cells47_op (way : Int) (W A : Int → Bool) (O : Int → Op3) (rv : Nat → Value) {d : Nat} (h : d < 7) (x : Op3) : (((cells47 way W A O rv).setIfInBounds (10 + d * 3) (.int .i64 x.1)).setIfInBounds (10 + d * 3 + 1) (.int .i64 x.2.1)).setIfInBounds (10 + d * 3 + 2) (.int .i64 x.2.2) = cells47 way W A (setF O d x) rv := by
  refine Array.ext_getElem? fun j => ?_
  by_cases hj : j < 47
  · rw [cells47_at _ _ _ _ _ j hj]
    simp only [Array.getElem?_setIfInBounds, Array.size_setIfInBounds, cells47_size]
    rw [cells47_at _ _ _ _ _ j hj]
    by_cases h1 : 10 ≤ j ∧ j < 31
    · have hq : rPart way W A (setF O d x) rv j = (if (j - 10) % 3 = 0 then .int .i64 (setF O d x (((j - 10) / 3 : Nat) : Int)).1 else if (j - 10) % 3 = 1 then .int .i64 (setF O d x (((j - 10) / 3 : Nat) : Int)).2.1 else .int .i64 (setF O d x (((j - 10) / 3 : Nat) : Int)).2.2) := by
        unfold rPart
        rw [if_neg (by omega), if_neg (by omega), if_neg (by omega), if_neg (by omega), if_pos (by omega)]
      have hq2 : rPart way W A O rv j = (if (j - 10) % 3 = 0 then .int .i64 (O (((j - 10) / 3 : Nat) : Int)).1 else if (j - 10) % 3 = 1 then .int .i64 (O (((j - 10) / 3 : Nat) : Int)).2.1 else .int .i64 (O (((j - 10) / 3 : Nat) : Int)).2.2) := by
        unfold rPart
        rw [if_neg (by omega), if_neg (by omega), if_neg (by omega), if_neg (by omega), if_pos (by omega)]
      rw [hq, hq2]
      by_cases h2 : (j - 10) / 3 = d
      · rw [h2, setF_same]
        rcases (show j = 10 + d * 3 ∨ j = 10 + d * 3 + 1 ∨ j = 10 + d * 3 + 2 by omega) with e | e | e
        · rw [if_neg (by omega), if_neg (by omega), if_pos e.symm, if_pos (by omega), if_pos (by omega)]
        · rw [if_neg (by omega), if_pos e.symm, if_pos (by omega), if_neg (by omega), if_pos (by omega)]
        · rw [if_pos e.symm, if_pos (by omega), if_neg (by omega), if_neg (by omega)]
      · rw [setF_other _ _ (show (((j - 10) / 3 : Nat) : Int) ≠ (d : Int) by omega), if_neg (by omega), if_neg (by omega), if_neg (by omega)]
    · rw [if_neg (by omega), if_neg (by omega), if_neg (by omega)]
      unfold rPart
      by_cases h2 : j < 10
      · simp [h2]
      · simp [h2, show ¬ j < 31 by omega]
  · rw [Array.getElem?_eq_none (by simp [cells47_size]; omega), Array.getElem?_eq_none (by simp [cells47_size]; omega)]
/-- What a row holds. -/
def rowOk (w : World) (R : Nat) (r : Runr) (i : Nat) (v : Value) : Prop :=
  match i with
  | 0 => w.ownsRow (R + 1) 67 3 v r.tab.1.length (flat r.tab.1)
  | 1 => w.ownsRow (R + 1) 67 3 v r.tab.2.length (flat r.tab.2)
  | 2 => w.ownsRow (R + 1) 43 3 v r.told.length (flat r.told)
  | 3 => w.ownsRow (R + 1) 3 1 v r.vict.length (r.vict.map (Value.int .i64))
  | d + 4 => Tail w (R + 1) 43 3 v (r.behind (d : Int)).length (flat (r.behind (d : Int)))
theorem rowOk.turn {w w1 : World} {F : Nat → Prop} {R : Nat} {r : Runr} {i : Nat} {v : Value} (h : rowOk w R r i v) (ht : Turns F w w1) (hF : ∀ g, v.ownBlock = some g → ¬ F g) : rowOk w1 R r i v := by
  unfold rowOk at h ⊢
  split at h
  · exact ht.own h hF
  · exact ht.own h hF
  · exact ht.own h hF
  · exact ht.own h hF
  · exact h.same fun g hg => ht.block g (h.lt g hg).2 (hF g hg)
theorem rowOk.lt {w : World} {R : Nat} {r : Runr} {i : Nat} {v : Value} (h : rowOk w R r i v) : ∀ g, v.ownBlock = some g → R + 1 ≤ g ∧ g < w.heap.size := by
  unfold rowOk at h
  split at h
  · exact h.lt
  · exact h.lt
  · exact h.lt
  · exact h.lt
  · exact h.lt
/-- A runner in memory. -/
structure RunAt (w : World) (R : Nat) (way : Int) (r : Runr) (rv : Nat → Value) : Prop where
  blk : w.heap[R]? = some (.cells (cells47 way r.waits r.out r.op rv) 47 (0, 0))
  rows : ∀ i, i < 11 → rowOk w R r i (rv i)
  apart : ∀ i j g, i < 11 → j < 11 → i ≠ j → (rv i).ownBlock = some g → (rv j).ownBlock = some g → False
/-- Its blocks. -/
def footR (R : Nat) (rv : Nat → Value) (k : Nat) : Prop := k = R ∨ ∃ i, i < 11 ∧ (rv i).ownBlock = some k
theorem RunAt.lt {w : World} {R : Nat} {way : Int} {r : Runr} {rv : Nat → Value} (h : RunAt w R way r rv) : R < w.heap.size := (Array.getElem?_eq_some_iff.1 h.blk).1
theorem RunAt.cell {w : World} {R : Nat} {way : Int} {r : Runr} {rv : Nat → Value} (h : RunAt w R way r rv) {k : Nat} (hk : k < 47) : w.cell? ⟨R, k, none⟩ = some (rPart way r.waits r.out r.op rv k) := by rw [cell_of_row w R _ _ _ _ h.blk, cells47_at _ _ _ _ _ k hk]
theorem RunAt.thaw {w : World} {R : Nat} {way : Int} {r : Runr} {rv : Nat → Value} (h : RunAt w R way r rv) (k : Nat) : w.frozen? ⟨R, k, none⟩ = false := by simp [World.frozen?, h.blk]
theorem RunAt.row {w : World} {R : Nat} {way : Int} {r : Runr} {rv : Nat → Value} (h : RunAt w R way r rv) {i : Nat} (hi : i < 11) : w.cell? ⟨R, posR i, none⟩ = some (rv i) := by rw [h.cell (pos_lt hi), rpart_row _ _ _ _ _ hi]
theorem RunAt.foot_lt {w : World} {R : Nat} {way : Int} {r : Runr} {rv : Nat → Value} (h : RunAt w R way r rv) {k : Nat} (hk : footR R rv k) : R ≤ k ∧ k < w.heap.size := by
  have := h.lt
  rcases hk with rfl | ⟨i, hi, hk⟩
  · omega
  · have := (h.rows i hi).lt k hk; omega
theorem RunAt.turn {w w1 : World} {F : Nat → Prop} {R : Nat} {way : Int} {r : Runr} {rv : Nat → Value} (h : RunAt w R way r rv) (ht : Turns F w w1) (hF : ∀ k, footR R rv k → ¬ F k) : RunAt w1 R way r rv :=
  ⟨(ht.block R h.lt (hF R (.inl rfl))).trans h.blk, fun i hi => (h.rows i hi).turn ht fun g hg => hF g (.inr ⟨i, hi, hg⟩), h.apart⟩
theorem RunAt.below {w w1 : World} {R : Nat} {way : Int} {r : Runr} {rv : Nat → Value} (h : RunAt w R way r rv) (hb : Below w.heap.size w w1) : RunAt w1 R way r rv := h.turn (Turns.of_below (F := fun _ => False) hb) fun _ _ hf => hf
/-- One row is another one: where it lay, or in new memory. -/
theorem RunAt.setRow {w w1 : World} {R : Nat} {way : Int} {r r1 : Runr} {rv : Nat → Value} {i : Nat} {v : Value} (h : RunAt w R way r rv) (hi : i < 11) (ht : Turns (fun k => (rv i).ownBlock = some k) w w1)
    (hv : rowOk w1 R r1 i v) (hap : ∀ g, v.ownBlock = some g → (rv i).ownBlock = some g ∨ w.heap.size ≤ g) (hr : ∀ j, j < 11 → j ≠ i → ∀ W u, rowOk W R r j u → rowOk W R r1 j u) (he : r1.waits = r.waits ∧ r1.out = r.out ∧ r1.op = r.op) :
    RunAt (w1.setCell ⟨R, posR i, none⟩ v) R way r1 (setV rv i v) ∧ Turns (footR R rv) w (w1.setCell ⟨R, posR i, none⟩ v) ∧ ∀ k, footR R (setV rv i v) k → footR R rv k ∨ w.heap.size ≤ k := by
  have hl := h.lt
  have hR : w1.heap[R]? = some (.cells (cells47 way r.waits r.out r.op rv) 47 (0, 0)) := (ht.block R hl (fun e => by have := ((h.rows i hi).lt R e).1; omega)).trans h.blk
  have hset : Turns (fun k => k = R) w1 (w1.setCell ⟨R, posR i, none⟩ v) := by
    refine Turns.setCell (Turns.refl _ w1) ?_ _
    exact .inl rfl
  refine ⟨⟨?_, fun j hj => ?_, fun a b g ha hb hab h1 h2 => ?_⟩, (ht.mono fun k _ e => .inr ⟨i, hi, e⟩).setCell (.inl (.inl rfl)) _, fun k hk => ?_⟩
  · rw [block_set hR, cells47_row _ _ _ _ _ hi, he.1, he.2.1, he.2.2]
  · by_cases e : j = i
    · subst e
      have : setV rv j v j = v := if_pos rfl
      rw [this]
      exact hv.turn hset fun g hg e => by have := (hv.lt g hg).1; omega
    · have : setV rv i v j = rv j := if_neg e
      rw [this]
      have h1 := hr j hj e w1 _ ((h.rows j hj).turn ht fun g hg e2 => h.apart j i g hj hi e hg e2)
      exact h1.turn hset fun g hg e2 => by have := (h1.lt g hg).1; omega
  · unfold setV at h1 h2
    split at h1
    · rename_i ea
      rw [if_neg (fun e => hab (ea.trans e.symm))] at h2
      rcases hap g h1 with h3 | h3
      · exact h.apart i b g hi hb (fun e => hab (ea.trans e)) h3 h2
      · have := ((h.rows b hb).lt g h2).2; omega
    · rename_i ea
      split at h2
      · rcases hap g h2 with h3 | h3
        · exact h.apart a i g ha hi ea h1 h3
        · have := ((h.rows a ha).lt g h1).2; omega
      · exact h.apart a b g ha hb hab h1 h2
  · rcases hk with hk | ⟨j, hj, hk⟩
    · exact .inl (.inl hk)
    · unfold setV at hk
      split at hk
      · rcases hap k hk with h3 | h3
        · exact .inl (.inr ⟨i, hi, h3⟩)
        · exact .inr h3
      · exact .inl (.inr ⟨j, hj, hk⟩)
section
variable {w w1 : World} {R : Nat} {way : Int} {r : Runr} {rv : Nat → Value}
theorem rowOk.of_same {r1 : Runr} (h1 : r1.tab = r.tab) (h2 : r1.told = r.told) (h3 : r1.vict = r.vict) (h4 : r1.behind = r.behind) {W : World} {i : Nat} {u : Value} (h : rowOk W R r i u) : rowOk W R r1 i u := by
  unfold rowOk at h ⊢
  rw [h1, h2, h3, h4]
  exact h
theorem RunAt.mark {r1 : Runr} {k : Nat} {u : Value} (h : RunAt w R way r rv) (hc : (cells47 way r.waits r.out r.op rv).setIfInBounds k u = cells47 way r1.waits r1.out r1.op rv) (h1 : r1.tab = r.tab) (h2 : r1.told = r.told) (h3 : r1.vict = r.vict) (h4 : r1.behind = r.behind) : RunAt (w.setCell ⟨R, k, none⟩ u) R way r1 rv ∧ Turns (footR R rv) w (w.setCell ⟨R, k, none⟩ u) := by
  have hset : Turns (fun j => j = R) w (w.setCell ⟨R, k, none⟩ u) := by
    refine Turns.setCell (Turns.refl _ w) ?_ _
    exact .inl rfl
  refine ⟨⟨by rw [block_set h.blk, hc], fun i hi => ?_, h.apart⟩, hset.mono fun j _ e => .inl e⟩
  exact rowOk.of_same h1 h2 h3 h4 ((h.rows i hi).turn hset fun g hg e => by have := ((h.rows i hi).lt g hg).1; omega)
/-- Who waits is set. -/
theorem RunAt.setWaits (h : RunAt w R way r rv) {d : Nat} (hd : d < 7) (x : Bool) : RunAt (w.setCell ⟨R, 3 + d, none⟩ (.bool x)) R way { r with waits := setF r.waits d x } rv ∧ Turns (footR R rv) w (w.setCell ⟨R, 3 + d, none⟩ (.bool x)) :=
  h.mark (r1 := { r with waits := setF r.waits d x }) (cells47_waits _ _ _ _ _ hd x) rfl rfl rfl rfl
/-- Who is aborted is set. -/
theorem RunAt.setOut (h : RunAt w R way r rv) {d : Nat} (hd : d < 7) (x : Bool) : RunAt (w.setCell ⟨R, 38 + d, none⟩ (.bool x)) R way { r with out := setF r.out d x } rv ∧ Turns (footR R rv) w (w.setCell ⟨R, 38 + d, none⟩ (.bool x)) :=
  h.mark (r1 := { r with out := setF r.out d x }) (cells47_out _ _ _ _ _ hd x) rfl rfl rfl rfl
/-- The op for which one waits is set. -/
theorem RunAt.setOp (h : RunAt w R way r rv) {d : Nat} (hd : d < 7) (x : Op3) : RunAt (((w.setCell ⟨R, 10 + d * 3, none⟩ (.int .i64 x.1)).setCell ⟨R, 10 + d * 3 + 1, none⟩ (.int .i64 x.2.1)).setCell ⟨R, 10 + d * 3 + 2, none⟩ (.int .i64 x.2.2)) R way { r with op := setF r.op d x } rv ∧ Turns (footR R rv) w (((w.setCell ⟨R, 10 + d * 3, none⟩ (.int .i64 x.1)).setCell ⟨R, 10 + d * 3 + 1, none⟩ (.int .i64 x.2.1)).setCell ⟨R, 10 + d * 3 + 2, none⟩ (.int .i64 x.2.2)) := by
  have hset : Turns (fun j => j = R) w (((w.setCell ⟨R, 10 + d * 3, none⟩ (.int .i64 x.1)).setCell ⟨R, 10 + d * 3 + 1, none⟩ (.int .i64 x.2.1)).setCell ⟨R, 10 + d * 3 + 2, none⟩ (.int .i64 x.2.2)) := by
    refine Turns.setCell (Turns.setCell (Turns.setCell (Turns.refl _ w) ?_ _) ?_ _) ?_ _ <;> exact .inl rfl
  refine ⟨⟨?_, fun i hi => ?_, h.apart⟩, hset.mono fun j _ e => .inl e⟩
  · rw [block_set (block_set (block_set h.blk)), cells47_op _ _ _ _ _ hd x]
  · exact rowOk.of_same (r := r) (r1 := { r with op := setF r.op d x }) rfl rfl rfl rfl ((h.rows i hi).turn hset fun g hg e => by have := ((h.rows i hi).lt g hg).1; omega)
/-- Its table. -/
theorem RunAt.table (h : RunAt w R way r rv) : TabAt w 47 R 1 (cells47 way r.waits r.out r.op rv) (rv 0) (rv 1) r.tab :=
  ⟨h.blk, by rw [cells47_at _ _ _ _ _ 1 (by omega)]; rfl, by rw [cells47_at _ _ _ _ _ 2 (by omega)]; rfl, h.rows 0 (by omega), h.rows 1 (by omega), fun g h1 h2 => h.apart 0 1 g (by omega) (by omega) (by decide) h1 h2⟩
theorem put2_run (W A : Int → Bool) (O : Int → Op3) (hv wv : Value) : put2 (cells47 way W A O rv) 1 hv wv = cells47 way W A O (setV (setV rv 0 hv) 1 wv) := by
  have h1 := cells47_row way W A O rv (i := 0) (by omega) hv
  have h2 := cells47_row way W A O (setV rv 0 hv) (i := 1) (by omega) wv
  unfold put2
  show ((cells47 way W A O rv).setIfInBounds (posR 0) hv).setIfInBounds (posR 1) wv = _
  rw [h1, h2]
theorem foot_run {k : Nat} (h : foot R (rv 0) (rv 1) k) : footR R rv k := by
  rcases h with h | h | h
  · exact .inl h
  · exact .inr ⟨0, by omega, h⟩
  · exact .inr ⟨1, by omega, h⟩
/-- A call on its table. -/
theorem RunAt.setTab {s1 : Tab2} (h : RunAt w R way r rv) (hs : TabStep w w1 47 R 1 (cells47 way r.waits r.out r.op rv) (rv 0) (rv 1) s1) : ∃ rv1, RunAt w1 R way { r with tab := s1 } rv1 ∧ Turns (footR R rv) w w1 ∧ (∀ k, footR R rv1 k → footR R rv k ∨ w.heap.size ≤ k) := by
  obtain ⟨hv, wv, ht, htu, hf⟩ := hs
  rw [put2_run] at ht
  have hold : ∀ j, j < 11 → 2 ≤ j → setV (setV rv 0 hv) 1 wv j = rv j := fun j _ h2 => by
    unfold setV
    rw [if_neg (by omega), if_neg (by omega)]
  have hn : ∀ j g, 2 ≤ j → j < 11 → (rv j).ownBlock = some g → ¬ foot R (rv 0) (rv 1) g := fun j g h2 h11 hg hft => by
    rcases hft with h3 | h3 | h3
    · have := ((h.rows j h11).lt g hg).1; omega
    · exact h.apart j 0 g h11 (by omega) (by omega) hg h3
    · exact h.apart j 1 g h11 (by omega) (by omega) hg h3
  have hn2 : ∀ j g, 2 ≤ j → j < 11 → (rv j).ownBlock = some g → ¬ foot R hv wv g := fun j g h2 h11 hg hft => by
    rcases hf g hft with h3 | h3
    · exact hn j g h2 h11 hg h3
    · have := ((h.rows j h11).lt g hg).2; omega
  have hone : ∀ j, j < 2 → ∀ g, (setV (setV rv 0 hv) 1 wv j).ownBlock = some g → foot R hv wv g := fun j hj g hg => by
    rcases (show j = 0 ∨ j = 1 by omega) with rfl | rfl
    · exact .inr (.inl hg)
    · exact .inr (.inr hg)
  refine ⟨setV (setV rv 0 hv) 1 wv, ⟨ht.blk, fun i hi => ?_, fun a b g ha hb hab h1 h2 => ?_⟩, htu.mono fun k _ hk => foot_run hk, fun k hk => ?_⟩
  · rcases (show i = 0 ∨ i = 1 ∨ 2 ≤ i by omega) with rfl | rfl | h2
    · exact ht.oh
    · exact ht.ow
    · rw [hold i hi h2]
      have h3 := (h.rows i hi).turn htu fun g hg => hn i g h2 hi hg
      rcases (show i = 2 ∨ i = 3 ∨ 4 ≤ i by omega) with rfl | rfl | h4
      · exact h3
      · exact h3
      · obtain ⟨j, rfl⟩ : ∃ j, i = j + 4 := ⟨i - 4, by omega⟩
        exact h3
  · rcases Nat.lt_or_ge a 2 with a2 | a2
    · rcases Nat.lt_or_ge b 2 with b2 | b2
      · rcases (show (a = 0 ∧ b = 1) ∨ (a = 1 ∧ b = 0) by omega) with ⟨rfl, rfl⟩ | ⟨rfl, rfl⟩
        · exact ht.apart g h1 h2
        · exact ht.apart g h2 h1
      · rw [hold b hb b2] at h2
        exact hn2 b g b2 hb h2 (hone a a2 g h1)
    · rw [hold a ha a2] at h1
      rcases Nat.lt_or_ge b 2 with b2 | b2
      · exact hn2 a g a2 ha h1 (hone b b2 g h2)
      · rw [hold b hb b2] at h2
        exact h.apart a b g ha hb hab h1 h2
  · rcases hk with hk | ⟨i, hi, hk⟩
    · exact .inl (.inl hk)
    · rcases Nat.lt_or_ge i 2 with i2 | i2
      · rcases hf k (hone i i2 k hk) with h3 | h3
        · exact .inl (foot_run h3)
        · exact .inr h3
      · rw [hold i hi i2] at hk
        exact .inl (.inr ⟨i, hi, hk⟩)
end
end Go.Proofs.YtjaeaanpbdmfgaeGreatDoor
