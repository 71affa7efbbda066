/-
  PROVED HERE: how a list of edges lies in memory, as a slice value that came in or that the program made itself.
  Conditions: none.
  PROVED HERE: a region that draws its order, whose own operations only read and whose callees may make new memory: one walk of the text's order serves every order, and what was there stays.
  Conditions: none.
  PROVED HERE: a row of bools in a block of memory, and what becomes of it when one of them is set, when memory is made, and when old memory stays.
  Conditions: none.
  PROVED HERE: graph.named gives the deals that right edges name. Old memory stays as it was.
  Conditions: none.
  PROVED HERE: a square of bools (from which deal to which) in a block of memory, and what becomes of it when one of them is set, when memory is made, and when old memory stays.
  Conditions: none.
  PROVED HERE: plain facts, with no word of the program: ways by more and more deals between, one deal behind the other (Warshall), are all ways.
  Conditions: none.
-/
import Derived.Test.YtjaeaanpbdmfgaeDoorProg
import Derived.Test.YtjaeaanpbdmfgaeDoorMgad
import Derived.WalkKit
import Derived.WalkSpells
import Derived.Handy
import Derived.Deep.QuietTactic
import Derived.BigQuiet
import Derived.WalkSmall
import Derived.Deep.RegionLaw
import Derived.Laws.AppendOwn
import Derived.Test.YtjaeaanpbdmfgaeDoorMgae
import Derived.Laws.Rows
import Derived.Laws.CopyOwn
namespace Go.Proofs.YtjaeaanpbdmfgaeDoor
open Go.RowKit

/-- The cells of edges. -/
def flatE : List Edge2 → List Value
  | [] => []
  | o :: r => .int .i64 o.1 :: .int .i64 o.2 :: flatE r
theorem flatE_length (l : List Edge2) : (flatE l).length = l.length * 2 := by
  induction l with
  | nil => rfl
  | cons o r ih => simp [flatE, ih]; omega
theorem flatE_append (l m : List Edge2) : flatE (l ++ m) = flatE l ++ flatE m := by
  induction l with
  | nil => rfl
  | cons o r ih => simp [flatE, ih]
theorem flatE_one (l : List Edge2) : ∀ u ∈ flatE l, u.oneCell' = true := by
  induction l with
  | nil => intro u hu; cases hu
  | cons o r ih =>
    intro u hu
    simp only [flatE, List.mem_cons] at hu
    rcases hu with rfl | rfl | hu
    · rfl
    · rfl
    · exact ih u hu
theorem flatE_at (l : List Edge2) : ∀ i, i < l.length → (flatE l)[i * 2]? = some (.int .i64 (l.getD i (0, 0)).1) ∧ (flatE l)[i * 2 + 1]? = some (.int .i64 (l.getD i (0, 0)).2) := by
  induction l with
  | nil => intro i hi; cases hi
  | cons o r ih =>
    intro i hi
    cases i with
    | zero => exact ⟨rfl, rfl⟩
    | succ i =>
      have := ih i (by simpa using hi)
      rw [show (i + 1) * 2 = i * 2 + 2 by omega]
      simpa [flatE] using this
/-- The edges lie in memory from an address on, two numbers each. -/
def EdgesAt (w : World) (b off : Nat) (l : List Edge2) : Prop :=
  ∀ i, i < l.length → w.cell? ⟨b, off + i * 2, none⟩ = some (.int .i64 (l.getD i (0, 0)).1) ∧ w.cell? ⟨b, off + i * 2 + 1, none⟩ = some (.int .i64 (l.getD i (0, 0)).2)
theorem edgesAt_of {w : World} {b off : Nat} {l : List Edge2} (h : ∀ j u, (flatE l)[j]? = some u → w.cell? ⟨b, off + j, none⟩ = some u) : EdgesAt w b off l := by
  intro i hi
  obtain ⟨h0, h1⟩ := flatE_at l i hi
  exact ⟨h _ _ h0, by rw [Nat.add_assoc]; exact h _ _ h1⟩
theorem EdgesAt.flat {w : World} {b off : Nat} {l : List Edge2} (h : EdgesAt w b off l) : ∀ j u, (flatE l)[j]? = some u → w.cell? ⟨b, off + j, none⟩ = some u := by
  intro j u hj
  have hlt : j < l.length * 2 := by
    rw [← flatE_length]
    exact (List.getElem?_eq_some_iff.1 hj).1
  obtain ⟨c0, c1⟩ := h (j / 2) (by omega)
  obtain ⟨f0, f1⟩ := flatE_at l (j / 2) (by omega)
  rcases (show j = j / 2 * 2 ∨ j = j / 2 * 2 + 1 by omega) with e | e
  · rw [← e] at c0 f0; rw [f0] at hj; rw [c0, ← hj]
  · rw [Nat.add_assoc, ← e] at c1; rw [← e] at f1; rw [f1] at hj; rw [c1, ← hj]
theorem EdgesAt.below {w w1 : World} {b off B : Nat} {l : List Edge2} (h : EdgesAt w b off l) (hb : Below B w w1) (hB : b < B ∨ l = []) : EdgesAt w1 b off l := by
  intro i hi
  have hB' : b < B := by
    rcases hB with h | h
    · exact h
    · subst h; cases hi
  rw [hb.cell (p := ⟨b, off + i * 2, none⟩) hB', hb.cell (p := ⟨b, off + i * 2 + 1, none⟩) hB']
  exact h i hi

theorem infoEdge : (Tryd.prog.info? 142).map (fun i => (i.zero, i.size, i.bytes)) = some (some (.agg #[.int .i64 0, .int .i64 0]), 2, 16) := by kernel_rfl

/-- A slice value that holds a list of edges. -/
def IsEdges (w : World) (v : Value) (l : List Edge2) : Prop :=
  ∃ (ad : Option Addr) (b off cap : Nat), v = .slice ad l.length cap ∧ (0 < l.length → ad = some ⟨b, off, none⟩) ∧ (ad = none → l.length = 0 ∧ cap = 0) ∧ (b < w.heap.size ∨ l = []) ∧ EdgesAt w b off l
theorem IsEdges.below {w w1 : World} {B : Nat} {v : Value} {l : List Edge2} (h : IsEdges w v l) (hb : Below B w w1) (hB : w.heap.size ≤ B) : IsEdges w1 v l := by
  obtain ⟨ad, b, off, cap, hv, ha, hn, hbB, hops⟩ := h
  have hs := hb.size
  refine ⟨ad, b, off, cap, hv, ha, hn, ?_, hops.below hb ?_⟩
  · rcases hbB with h | h
    · exact .inl (by omega)
    · exact .inr h
  · rcases hbB with h | h
    · exact .inl (by omega)
    · exact .inr h
theorem isEdges_nil (w : World) : IsEdges w (.slice none 0 0) [] := ⟨none, 0, 0, 0, rfl, fun h => absurd h (by simp), fun _ => ⟨rfl, rfl⟩, .inr rfl, fun i hi => by simp at hi⟩
theorem isEdges_own {w : World} {base e n : Nat} {v : Value} {l : List Edge2} (h : w.ownsRow base e 2 v n (flatE l)) (hl : l.length = n) : IsEdges w v l := by
  have h' := h
  obtain ⟨_, ⟨hv, hd⟩ | ⟨g, cap, cur, hv, hb, hg, hn, hm, hsz, htk⟩⟩ := h'
  · have : l = [] := List.length_eq_zero_iff.1 (by omega)
    subst this
    rw [hv]
    exact isEdges_nil w
  · refine ⟨some ⟨g, 0, none⟩, g, 0, cap, by rw [hl]; exact hv, fun _ => rfl, fun h => (by simp at h), .inl (h.lt g (by rw [hv]; rfl)).2, edgesAt_of fun j u hj => ?_⟩
    have := h.cells (g := g) (by rw [hv]; rfl) j u hj
    rw [Addr.add_lit] at this
    exact this
/-- One edge just built lies there. -/
theorem one_edge (w : World) (t a : Int) : ∀ j u, (flatE [(t, a)])[j]? = some u → (w.alloc (.cells #[.int .i64 t, .int .i64 a] 142)).cell? ((⟨w.heap.size, 0, none⟩ : Addr).add j) = some u := by
  intro j u hj
  match j, hj with
  | 0, hj => simp [flatE] at hj; subst hj; simp [Addr.add]
  | 1, hj => simp [flatE] at hj; subst hj; simp [Addr.add]
  | k + 2, hj => simp [flatE] at hj
end Go.Proofs.YtjaeaanpbdmfgaeDoor

namespace Go.Proofs.YtjaeaanpbdmfgaeDoor
open Go.RowKit

/-- A world in which all that is old is as it was. -/
structure Later (B : Nat) (w : World) where
  W : World
  h : Below B w W
theorem region_later {P : Program} {id : Nat} {Q : Exit → Act → World → Prop} {a : Act} {w : World} {l : List Oper} (B : Nat) (hm : P.follows .mixedOrders = true) (hB : Region.lexB .any l.toArray = true)
    (h : wpQuiet P l.toArray (fun w' => ∃ x : Later B w, w' = x.W) (fun a' => ∀ w', (∃ x : Later B w, w' = x.W) → Q .normal a' w') l a) : (Code.region id l.toArray true).wp P Q a w :=
  wp_region_quiet (C := fun w' => ∃ x : Later B w, w' = x.W) hm hB ⟨⟨w.drew, (Below.refl B w).drew⟩, rfl⟩ (by simpa using h)
/-- What a callee's contract must say there. -/
theorem Later.call {P : Program} {f : FuncId} {args : Array Value} {B : Nat} {w : World} {v : Value} (x : Later B w)
    (h : Calls P f args x.W fun e w' => e = .returned v ∧ Below B x.W w') : Calls P f args x.W fun e w' => e = .returned v ∧ ∃ y : Later B w, w' = y.W :=
  h.mono fun _ w' ⟨he, hb⟩ => ⟨he, ⟨w', x.h.trans hb⟩, rfl⟩
theorem Later.at {P : Program} {f : FuncId} {args : Array Value} {B : Nat} {w : World} {v : Value} (x : Later B w) (hB : B ≤ w.heap.size)
    (h : Calls P f args x.W fun e w' => e = .returned v ∧ Below x.W.heap.size x.W w') : Calls P f args x.W fun e w' => e = .returned v ∧ ∃ y : Later B w, w' = y.W :=
  h.mono fun _ w' ⟨he, hb⟩ => ⟨he, ⟨w', x.h.trans (hb.mono (Nat.le_trans hB x.h.size))⟩, rfl⟩
/-- append on a row of one's own, as one step of a region that draws. -/
theorem step_append_own {P : Program} {ops : Array Oper} {o : Oper} {a : Act} {w : World} {K : Act → World → Prop} {Q : Exit → Act → World → Prop} {E : Prop}
    (hgd : o.guard = none) (s x : Operand) (t : TypeId) (ho : o.op = .call { callee := .builtin .append, args := #[s, x], argTypes := #[t, t] })
    (base : Nat) (e : TypeId) (i : TypeInfo) (z : Value) (size bytes : Nat) (ht : P.underlying t = some (.slice e)) (hi : P.info? e = some i) (hz : i.zero = some z)
    (hsize : i.size = size) (hby : i.bytes = bytes) (hzs : z.cells.size = size) (hsz : 0 < size)
    (v : Value) (n : Nat) (xs : List Value) (hs : a.eval s = v) (hown : w.ownsRow base e size v n xs)
    (ad : Addr) (m c : Nat) (news : List Value) (hx : a.eval x = .slice (some ad) m c) (hl : news.length = m * size) (hnews : ∀ j u, news[j]? = some u → w.cell? (ad.add j) = some u) (h1 : ∀ u ∈ news, u.oneCell' = true)
    (h63 : n + m ≤ maxLen) (hbytes : (n + m) * bytes ≤ 140737488355328) (hbase : base ≤ w.heap.size)
    (h : ∀ v' w', w'.ownsRow base e size v' (n + m) (xs ++ news) → w.grownBy w' v.ownBlock → (v' = .slice none 0 0 ↔ v = .slice none 0 0 ∧ m = 0) → K (a.put o.dst v') w') :
    if Region.wanted o (yielded ops a.tmps) = true then Oper.wp P o a w K Q else E := by
  have hw : Region.wanted o (yielded ops a.tmps) = true := by simp [Region.wanted, hgd]
  rw [if_pos hw]
  exact wp_append_own w s x t ho base e i z size bytes ht hi hz hsize hby hzs hsz v n xs hs hown ad m c news hx hl hnews h1 h63 hbytes hbase h
end Go.Proofs.YtjaeaanpbdmfgaeDoor

namespace Go.Proofs.YtjaeaanpbdmfgaeDoor
open Go.RowKit

/-- A row of bools in a block. -/
def BoolsAt (w : World) (b n : Nat) (s : Set7) : Prop := ∀ k, k < n → w.cell? ⟨b, k, none⟩ = some (.bool (s k)) ∧ w.frozen? ⟨b, k, none⟩ = false
theorem BoolsAt.congr {w : World} {b n : Nat} {s r : Set7} (h : BoolsAt w b n s) (he : ∀ k, k < n → s k = r k) : BoolsAt w b n r := fun k hk => by rw [← he k hk]; exact h k hk
theorem BoolsAt.drew {w : World} {b n : Nat} {s : Set7} (h : BoolsAt w b n s) : BoolsAt w.drew b n s := h
theorem BoolsAt.drewN {w : World} {b n m : Nat} {s : Set7} (h : BoolsAt w b n s) : BoolsAt (w.drewN m) b n s := h
theorem BoolsAt.lt {w : World} {b n : Nat} {s : Set7} (h : BoolsAt w b n s) (hn : 0 < n) : b < w.heap.size := by
  have := World.block_lt_of_cell? w _ (h 0 hn).1
  simpa using this
theorem BoolsAt.below {w w1 : World} {b n B : Nat} {s : Set7} (h : BoolsAt w b n s) (hb : Below B w w1) (hB : b < B) : BoolsAt w1 b n s := fun k hk => by
  rw [hb.cell (p := ⟨b, k, none⟩) hB, hb.frozen (p := ⟨b, k, none⟩) hB]; exact h k hk
theorem BoolsAt.alloc {w : World} {b n : Nat} {s : Set7} (h : BoolsAt w b n s) (o : Obj) : BoolsAt (w.alloc o) b n s := fun k hk => by
  have hlt : b < w.heap.size := by have := World.block_lt_of_cell? w _ (h k hk).1; simpa using this
  rw [World.cell?_alloc_lt _ _ _ hlt, World.frozen?_alloc_old _ _ _ (Nat.ne_of_lt hlt)]; exact h k hk
theorem BoolsAt.set {w : World} {b n t : Nat} {s : Set7} (h : BoolsAt w b n s) (x : Bool) (ht : t < n) : BoolsAt (w.setCell ⟨b, t, none⟩ (.bool x)) b n (setS s t x) := fun k hk => by
  rw [World.frozen?_setCell]
  refine ⟨?_, (h k hk).2⟩
  unfold setS
  by_cases e : k = t
  · subst e; rw [if_pos rfl]; exact World.cell?_setCell_same _ _ _ (h k hk).1
  · rw [if_neg e, World.cell?_setCell_other _ _ _ _ (by simp <;> omega)]; exact (h k hk).1
theorem BoolsAt.far {w : World} {b n : Nat} {s : Set7} (h : BoolsAt w b n s) {p : Addr} (v : Value) (hp : p.block ≠ b) : BoolsAt (w.setCell p v) b n s := fun k hk => by
  rw [World.frozen?_setCell, World.cell?_setCell_other _ _ _ _ (by intro e; exact hp (congrArg Addr.block e))]; exact h k hk
theorem BoolsAt.grown {w w1 : World} {b n : Nat} {s : Set7} {row : Option Nat} (h : BoolsAt w b n s) (hg : w.grownBy w1 row) (hlt : b < w.heap.size) (hne : row ≠ some b) : BoolsAt w1 b n s := fun k hk => by
  have hb := hg.block b hlt (Ne.symm hne)
  rw [World.cell?_of_block (w := w) (a := ⟨b, k, none⟩) hb, World.frozen?_of_block (w := w) (a := ⟨b, k, none⟩) hb]; exact h k hk
theorem bools7_new (w : World) (s : Set7) (T : TypeId) : BoolsAt (w.alloc (.cells #[.bool (s 0), .bool (s 1), .bool (s 2), .bool (s 3), .bool (s 4), .bool (s 5), .bool (s 6)] T)) w.heap.size 7 s := fun k hk => by
  rw [World.cell?_alloc_new, World.frozen?_alloc_new]
  refine ⟨?_, rfl⟩
  rcases (show k = 0 ∨ k = 1 ∨ k = 2 ∨ k = 3 ∨ k = 4 ∨ k = 5 ∨ k = 6 by omega) with h | h | h | h | h | h | h <;> subst h <;> rfl
end Go.Proofs.YtjaeaanpbdmfgaeDoor

namespace Go.Proofs.YtjaeaanpbdmfgaeDoor
open Go.RowKit

theorem cast_beq (t j : Nat) : ((t : Int) == (j : Int)) = decide (j = t) := by
  rw [Bool.eq_iff_iff]
  simp
  omega
theorem set_named (s : Set7) (t a j : Nat) : setS (setS s t true) a true j = (s j || ((t : Int) == (j : Int) || (a : Int) == (j : Int))) := by
  rw [cast_beq, cast_beq]
  unfold setS
  by_cases h1 : j = a
  · simp [h1]
  · by_cases h2 : j = t <;> simp [h1, h2]

end Go.Proofs.YtjaeaanpbdmfgaeDoor

namespace Go.Proofs.YtjaeaanpbdmfgaeDoor
open Go.RowKit

/-- Two numbers as one. -/
def flatS (s : Step7) : Set7 := fun k => s (k / 7) (k % 7)
def cells49 (s : Step7) : Array Value := ((List.range 49).map fun k => Value.bool (flatS s k)).toArray
theorem cells49_size (s : Step7) : (cells49 s).size = 49 := by simp [cells49]
theorem cells49_at (s : Step7) (k : Nat) (h : k < 49) : (cells49 s)[k]? = some (.bool (flatS s k)) := by simp [cells49, h]
theorem cells49_one (s : Step7) : (cells49 s).all (·.oneCell') = true := by
  rw [Array.all_eq_true_iff_forall_mem]
  intro v hv
  simp only [cells49, List.mem_toArray, List.mem_map] at hv
  obtain ⟨k, _, rfl⟩ := hv
  rfl
theorem flat_two (i k : Nat) (hk : k < 7) (s : Step7) : flatS s (i * 7 + k) = s i k := by
  unfold flatS
  rw [show (i * 7 + k) / 7 = i by omega, show (i * 7 + k) % 7 = k by omega]
def setM (s : Step7) (t a : Nat) : Step7 := fun i k => if i = t ∧ k = a then true else s i k
theorem cells49_set (s : Step7) (t a : Nat) (ha : a < 7) : (cells49 s).setIfInBounds (t * 7 + a) (.bool true) = cells49 (setM s t a) := by
  refine Array.ext_getElem? fun j => ?_
  rw [Array.getElem?_setIfInBounds, cells49_size]
  by_cases hj : j < 49
  · rw [cells49_at _ j hj, cells49_at _ j hj]
    unfold flatS setM
    by_cases e : t * 7 + a = j
    · rw [if_pos e, if_pos (by omega), if_pos (by omega)]
    · rw [if_neg e, if_neg (by omega)]
  · have h1 : ∀ r, (cells49 r)[j]? = none := fun r => Array.getElem?_eq_none (by rw [cells49_size]; omega)
    rw [h1, h1]
    by_cases e : t * 7 + a = j
    · rw [if_pos e, if_neg (by omega)]
    · rw [if_neg e]
def MatAt (w : World) (b : Nat) (s : Step7) : Prop := w.heap[b]? = some (.cells (cells49 s) 149 (0, 0))
theorem MatAt.lt {w : World} {b : Nat} {s : Step7} (h : MatAt w b s) : b < w.heap.size := by
  have h' : w.heap[b]? = some _ := h
  exact (Array.getElem?_eq_some_iff.1 h').1
theorem MatAt.cell {w : World} {b : Nat} {s : Step7} (h : MatAt w b s) {i k : Nat} (hi : i < 7) (hk : k < 7) : w.cell? ⟨b, i * 7 + k, none⟩ = some (.bool (s i k)) := by
  rw [cell_of_row w b _ _ _ _ h, cells49_at s _ (by omega), flat_two i k hk]
theorem MatAt.thaw {w : World} {b : Nat} {s : Step7} (h : MatAt w b s) (k : Nat) : w.frozen? ⟨b, k, none⟩ = false := by
  have h' : w.heap[b]? = some _ := h
  simp [World.frozen?, h']
theorem MatAt.drew {w : World} {b : Nat} {s : Step7} (h : MatAt w b s) : MatAt w.drew b s := h
theorem MatAt.below {w w1 : World} {b B : Nat} {s : Step7} (h : MatAt w b s) (hb : Below B w w1) (hB : b < B) : MatAt w1 b s := (hb.block b hB).trans h
theorem MatAt.alloc {w : World} {b : Nat} {s : Step7} (h : MatAt w b s) (o : Obj) : MatAt (w.alloc o) b s := (Below.heap_alloc w o b h.lt).trans h
theorem MatAt.far {w : World} {b : Nat} {s : Step7} (h : MatAt w b s) {p : Addr} (v : Value) (hp : b ≠ p.block) : MatAt (w.setCell p v) b s := (Below.heap_setCell w p v b hp).trans h
theorem MatAt.set {w : World} {b t a : Nat} {s : Step7} (h : MatAt w b s) (ha : a < 7) : MatAt (w.setCell ⟨b, t * 7 + a, none⟩ (.bool true)) b (setM s t a) := by
  have h' : w.heap[b]? = some (.cells (cells49 s) 149 (0, 0)) := h
  unfold MatAt World.setCell
  rw [Array.getElem?_modify]
  simp [h', cells49_set s t a ha]
theorem MatAt.congr {w : World} {b : Nat} {s r : Step7} (h : MatAt w b s) (he : s = r) : MatAt w b r := he ▸ h
theorem mat_box (w : World) (s : Step7) : MatAt (w.alloc (.cells (cells49 s) 149)) w.heap.size s := by
  unfold MatAt World.alloc
  simp
theorem mat_fresh (w : World) (c : Array Value) (h : cells49 (fun _ _ => false) = c) : MatAt (w.alloc (.cells c 149)) w.heap.size (fun _ _ => false) := h ▸ mat_box w _
theorem mat_fresh2 (w : World) (o : Obj) (c : Array Value) (h : cells49 (fun _ _ => false) = c) : MatAt ((w.alloc o).alloc (.cells c 149)) (w.heap.size + 1) (fun _ _ => false) := by
  have := mat_fresh (w.alloc o) c h
  simpa using this
theorem mat_info : (Tryd.prog.info? 149).map (·.size) = some 49 := by kernel_rfl
theorem mat_info' (s : Step7) : (Tryd.prog.info? 149).map (·.size) = some (cells49 s).size := by rw [cells49_size]; exact mat_info
end Go.Proofs.YtjaeaanpbdmfgaeDoor

namespace Go.Proofs.YtjaeaanpbdmfgaeDoor

/-- A place of the square ahead of another one. -/
def befB (i k a b : Nat) : Bool := decide (1 ≤ a ∧ a ≤ 6 ∧ 1 ≤ b ∧ b ≤ 6 ∧ (a < i ∨ (a = i ∧ b < k)))
/-- By one deal more, as far as the loops have come. -/
def partW (W : Step7) (m i k : Nat) : Step7 := fun a b => W a b || (befB i k a b && (W a m && W m b))
theorem part_col (W : Step7) (m i k a : Nat) : partW W m i k a m = W a m := by
  unfold partW
  cases W a m <;> simp
theorem part_row (W : Step7) (m i k b : Nat) : partW W m i k m b = W m b := by
  unfold partW
  cases W m b <;> simp
theorem part_start (W : Step7) (m : Nat) : partW W m 1 1 = W := by
  funext a b
  unfold partW
  have : befB 1 1 a b = false := by unfold befB; simp; omega
  rw [this]; simp
theorem part_line (W : Step7) (m i : Nat) : partW W m i 7 = partW W m (i + 1) 1 := by
  funext a b
  unfold partW
  have : befB i 7 a b = befB (i + 1) 1 a b := by unfold befB; rw [decide_eq_decide]; omega
  rw [this]
theorem part_set (W : Step7) (m i k : Nat) (hi : 1 ≤ i ∧ i ≤ 6) (hk : 1 ≤ k ∧ k ≤ 6) (h : (W i m && W m k) = true) : setM (partW W m i k) i k = partW W m i (k + 1) := by
  funext a b
  unfold setM partW
  by_cases e : a = i ∧ b = k
  · rw [if_pos e, e.1, e.2, h]
    have : befB i (k + 1) i k = true := by unfold befB; simp; omega
    rw [this]; simp
  · rw [if_neg e]
    have : befB i k a b = befB i (k + 1) a b := by unfold befB; rw [decide_eq_decide]; omega
    rw [this]
theorem part_skip (W : Step7) (m i k : Nat) (h : (W i m && W m k) = false) : partW W m i k = partW W m i (k + 1) := by
  funext a b
  unfold partW
  by_cases e : a = i ∧ b = k
  · rw [e.1, e.2, h]; simp
  · have : befB i k a b = befB i (k + 1) a b := by unfold befB; rw [decide_eq_decide]; omega
    rw [this]
def warTo (l : List Edge2) : Nat → Step7
  | 0 => stepsS l
  | n + 1 => partW (warTo l n) (n + 1) 7 1
theorem war_sound (l : List Edge2) : ∀ n i k, warTo l n i k = true → Way (stepsS l) i k := by
  intro n
  induction n with
  | zero => intro i k h; exact .one h
  | succ n ih =>
    intro i k h
    unfold warTo partW at h
    simp only [Bool.or_eq_true, Bool.and_eq_true] at h
    rcases h with h | ⟨_, h1, h2⟩
    · exact ih _ _ h
    · exact (ih _ _ h1).trans (ih _ _ h2)
theorem war_more (l : List Edge2) (n i k : Nat) (h : warTo l n i k = true) : warTo l (n + 1) i k = true := by
  unfold warTo partW
  rw [h]; rfl
theorem war_base (l : List Edge2) : ∀ n i k, stepsS l i k = true → warTo l n i k = true := by
  intro n
  induction n with
  | zero => intro i k h; exact h
  | succ n ih => intro i k h; exact war_more l n i k (ih i k h)
def Deal (i : Nat) : Prop := 1 ≤ i ∧ i ≤ 6
theorem war_step {l : List Edge2} {n i k : Nat} (hi : Deal i) (hk : Deal k) : warTo l (n + 1) i k = (warTo l n i k || (warTo l n i (n + 1) && warTo l n (n + 1) k)) := by
  show partW (warTo l n) (n + 1) 7 1 i k = _
  unfold partW
  have : befB 7 1 i k = true := by unfold befB; unfold Deal at hi hk; simp; omega
  rw [this, Bool.true_and]
theorem war_shut (l : List Edge2) : ∀ n, n ≤ 6 → ∀ j, 1 ≤ j → j ≤ n → ∀ i k, Deal i → Deal k → warTo l n i j = true → warTo l n j k = true → warTo l n i k = true := by
  intro n
  induction n with
  | zero => intro _ j h1 h2; omega
  | succ n ih =>
    intro hn j h1 h2 i k hi hk hij hjk
    have hm : Deal (n + 1) := ⟨by omega, hn⟩
    have hj : Deal j := ⟨h1, by omega⟩
    have ih' := ih (by omega)
    rw [war_step hi hj] at hij
    rw [war_step hj hk] at hjk
    rw [war_step hi hk]
    simp only [Bool.or_eq_true, Bool.and_eq_true] at hij hjk ⊢
    by_cases e : j = n + 1
    · subst e
      have a1 : warTo l n i (n + 1) = true := by rcases hij with h | h; exact h; exact h.1
      have a2 : warTo l n (n + 1) k = true := by rcases hjk with h | h; exact h; exact h.2
      exact .inr ⟨a1, a2⟩
    · have hjn : j ≤ n := by omega
      rcases hij with h | ⟨h, h'⟩
      · rcases hjk with g | ⟨g, g'⟩
        · exact .inl (ih' j h1 hjn i k hi hk h g)
        · exact .inr ⟨ih' j h1 hjn i (n + 1) hi hm h g, g'⟩
      · rcases hjk with g | ⟨g, g'⟩
        · exact .inr ⟨h, ih' j h1 hjn (n + 1) k hm hk h' g⟩
        · exact .inr ⟨h, g'⟩
theorem war_full {l : List Edge2} (hr : Right l) {i k : Nat} (h : Way (stepsS l) i k) : warTo l 6 i k = true := by
  have h2 : warTo l 6 i k = true ∧ Deal i ∧ Deal k := way_ind (R := fun i k => warTo l 6 i k = true ∧ Deal i ∧ Deal k)
    (fun x y e => ⟨war_base l 6 x y e, (steps_lt hr e).1, (steps_lt hr e).2⟩)
    (fun x y z e _ ih => ⟨war_shut l 6 (by omega) y (steps_lt hr e).2.1 (steps_lt hr e).2.2 x z (steps_lt hr e).1 ih.2.2 (war_base l 6 x y e) ih.1, (steps_lt hr e).1, ih.2.2⟩) h
  exact h2.1
theorem war_way {l : List Edge2} (hr : Right l) (i k : Nat) : warTo l 6 i k = true ↔ Way (stepsS l) i k := ⟨war_sound l 6 i k, war_full hr⟩
end Go.Proofs.YtjaeaanpbdmfgaeDoor
