/-
  PROVED HERE: how a list of edges lies in memory, as a slice value that came in or that the program made itself.
  Conditions: none.
  PROVED HERE: a region that draws its order, whose own operations only read and whose callees may make new memory: one walk of the text's order serves every order, and what was there stays.
  Conditions: none.
  PROVED HERE: a row of bools in a block of memory, and what becomes of it when one of them is set, when memory is made, and when old memory stays.
  Conditions: none.
  PROVED HERE: graph.named gives the deals that right edges name. Old memory stays as it was.
  Conditions: none.
  PROVED HERE: a square of bools (from which deal to which) in a block of memory, and what becomes of it when one of them is set, when memory is made, and when old memory stays.
  Conditions: none.
  PROVED HERE: plain facts, with no word of the program: ways by more and more deals between, one deal behind the other (Warshall), are all ways.
  Conditions: none.
  PROVED HERE: plain facts, with no word of the program: deals that keep locks till they end, as chapter 9 has them (told: what is done; who is aborted), as a function on lists; how far its lists can grow, and who has no lock.
  Conditions: none.
-/
import Derived.Test.YtjaeaanpbdmfgaeGreatDoorProg
import Derived.Test.YtjaeaanpbdmfgaeGreatDoorMgae
import Derived.WalkKit
import Derived.WalkSpells
import Derived.Handy
import Derived.Deep.QuietTactic
import Derived.BigQuiet
import Derived.WalkSmall
import Derived.Deep.RegionLaw
import Derived.Laws.AppendOwn
import Derived.Laws.Rows
import Derived.Laws.CopyOwn
import Derived.Test.YtjaeaanpbdmfgaeGreatDoorMgad
namespace Go.Proofs.YtjaeaanpbdmfgaeGreatDoor
open Go.RowKit

/-- The cells of edges. -/
def flatE : List Edge2 → List Value
  | [] => []
  | o :: r => .int .i64 o.1 :: .int .i64 o.2 :: flatE r
theorem flatE_length (l : List Edge2) : (flatE l).length = l.length * 2 := by
  induction l with
  | nil => rfl
  | cons o r ih => simp [flatE, ih]; omega
theorem flatE_append (l m : List Edge2) : flatE (l ++ m) = flatE l ++ flatE m := by
  induction l with
  | nil => rfl
  | cons o r ih => simp [flatE, ih]
theorem flatE_one (l : List Edge2) : ∀ u ∈ flatE l, u.oneCell' = true := by
  induction l with
  | nil => intro u hu; cases hu
  | cons o r ih =>
    intro u hu
    simp only [flatE, List.mem_cons] at hu
    rcases hu with rfl | rfl | hu
    · rfl
    · rfl
    · exact ih u hu
theorem flatE_at (l : List Edge2) : ∀ i, i < l.length → (flatE l)[i * 2]? = some (.int .i64 (l.getD i (0, 0)).1) ∧ (flatE l)[i * 2 + 1]? = some (.int .i64 (l.getD i (0, 0)).2) := by
  induction l with
  | nil => intro i hi; cases hi
  | cons o r ih =>
    intro i hi
    cases i with
    | zero => exact ⟨rfl, rfl⟩
    | succ i =>
      have := ih i (by simpa using hi)
      rw [show (i + 1) * 2 = i * 2 + 2 by omega]
      simpa [flatE] using this
/-- The edges lie in memory from an address on, two numbers each. -/
def EdgesAt (w : World) (b off : Nat) (l : List Edge2) : Prop :=
  ∀ i, i < l.length → w.cell? ⟨b, off + i * 2, none⟩ = some (.int .i64 (l.getD i (0, 0)).1) ∧ w.cell? ⟨b, off + i * 2 + 1, none⟩ = some (.int .i64 (l.getD i (0, 0)).2)
theorem edgesAt_of {w : World} {b off : Nat} {l : List Edge2} (h : ∀ j u, (flatE l)[j]? = some u → w.cell? ⟨b, off + j, none⟩ = some u) : EdgesAt w b off l := by
  intro i hi
  obtain ⟨h0, h1⟩ := flatE_at l i hi
  exact ⟨h _ _ h0, by rw [Nat.add_assoc]; exact h _ _ h1⟩
theorem EdgesAt.flat {w : World} {b off : Nat} {l : List Edge2} (h : EdgesAt w b off l) : ∀ j u, (flatE l)[j]? = some u → w.cell? ⟨b, off + j, none⟩ = some u := by
  intro j u hj
  have hlt : j < l.length * 2 := by
    rw [← flatE_length]
    exact (List.getElem?_eq_some_iff.1 hj).1
  obtain ⟨c0, c1⟩ := h (j / 2) (by omega)
  obtain ⟨f0, f1⟩ := flatE_at l (j / 2) (by omega)
  rcases (show j = j / 2 * 2 ∨ j = j / 2 * 2 + 1 by omega) with e | e
  · rw [← e] at c0 f0; rw [f0] at hj; rw [c0, ← hj]
  · rw [Nat.add_assoc, ← e] at c1; rw [← e] at f1; rw [f1] at hj; rw [c1, ← hj]
theorem EdgesAt.below {w w1 : World} {b off B : Nat} {l : List Edge2} (h : EdgesAt w b off l) (hb : Below B w w1) (hB : b < B ∨ l = []) : EdgesAt w1 b off l := by
  intro i hi
  have hB' : b < B := by
    rcases hB with h | h
    · exact h
    · subst h; cases hi
  rw [hb.cell (p := ⟨b, off + i * 2, none⟩) hB', hb.cell (p := ⟨b, off + i * 2 + 1, none⟩) hB']
  exact h i hi

theorem infoEdge : (Tryz.prog.info? 82).map (fun i => (i.zero, i.size, i.bytes)) = some (some (.agg #[.int .i64 0, .int .i64 0]), 2, 16) := by kernel_rfl

/-- A slice value that holds a list of edges. -/
def IsEdges (w : World) (v : Value) (l : List Edge2) : Prop :=
  ∃ (ad : Option Addr) (b off cap : Nat), v = .slice ad l.length cap ∧ (0 < l.length → ad = some ⟨b, off, none⟩) ∧ (ad = none → l.length = 0 ∧ cap = 0) ∧ (b < w.heap.size ∨ l = []) ∧ EdgesAt w b off l
theorem IsEdges.below {w w1 : World} {B : Nat} {v : Value} {l : List Edge2} (h : IsEdges w v l) (hb : Below B w w1) (hB : w.heap.size ≤ B) : IsEdges w1 v l := by
  obtain ⟨ad, b, off, cap, hv, ha, hn, hbB, hops⟩ := h
  have hs := hb.size
  refine ⟨ad, b, off, cap, hv, ha, hn, ?_, hops.below hb ?_⟩
  · rcases hbB with h | h
    · exact .inl (by omega)
    · exact .inr h
  · rcases hbB with h | h
    · exact .inl (by omega)
    · exact .inr h
theorem isEdges_nil (w : World) : IsEdges w (.slice none 0 0) [] := ⟨none, 0, 0, 0, rfl, fun h => absurd h (by simp), fun _ => ⟨rfl, rfl⟩, .inr rfl, fun i hi => by simp at hi⟩
theorem isEdges_own {w : World} {base e n : Nat} {v : Value} {l : List Edge2} (h : w.ownsRow base e 2 v n (flatE l)) (hl : l.length = n) : IsEdges w v l := by
  have h' := h
  obtain ⟨_, ⟨hv, hd⟩ | ⟨g, cap, cur, hv, hb, hg, hn, hm, hsz, htk⟩⟩ := h'
  · have : l = [] := List.length_eq_zero_iff.1 (by omega)
    subst this
    rw [hv]
    exact isEdges_nil w
  · refine ⟨some ⟨g, 0, none⟩, g, 0, cap, by rw [hl]; exact hv, fun _ => rfl, fun h => (by simp at h), .inl (h.lt g (by rw [hv]; rfl)).2, edgesAt_of fun j u hj => ?_⟩
    have := h.cells (g := g) (by rw [hv]; rfl) j u hj
    rw [Addr.add_lit] at this
    exact this
/-- One edge just built lies there. -/
theorem one_edge (w : World) (t a : Int) : ∀ j u, (flatE [(t, a)])[j]? = some u → (w.alloc (.cells #[.int .i64 t, .int .i64 a] 82)).cell? ((⟨w.heap.size, 0, none⟩ : Addr).add j) = some u := by
  intro j u hj
  match j, hj with
  | 0, hj => simp [flatE] at hj; subst hj; simp [Addr.add]
  | 1, hj => simp [flatE] at hj; subst hj; simp [Addr.add]
  | k + 2, hj => simp [flatE] at hj
end Go.Proofs.YtjaeaanpbdmfgaeGreatDoor

namespace Go.Proofs.YtjaeaanpbdmfgaeGreatDoor
open Go.RowKit

/-- A world in which all that is old is as it was. -/
structure Later (B : Nat) (w : World) where
  W : World
  h : Below B w W
theorem region_later {P : Program} {id : Nat} {Q : Exit → Act → World → Prop} {a : Act} {w : World} {l : List Oper} (B : Nat) (hm : P.follows .mixedOrders = true) (hB : Region.lexB .any l.toArray = true)
    (h : wpQuiet P l.toArray (fun w' => ∃ x : Later B w, w' = x.W) (fun a' => ∀ w', (∃ x : Later B w, w' = x.W) → Q .normal a' w') l a) : (Code.region id l.toArray true).wp P Q a w :=
  wp_region_quiet (C := fun w' => ∃ x : Later B w, w' = x.W) hm hB ⟨⟨w.drew, (Below.refl B w).drew⟩, rfl⟩ (by simpa using h)
/-- What a callee's contract must say there. -/
theorem Later.call {P : Program} {f : FuncId} {args : Array Value} {B : Nat} {w : World} {v : Value} (x : Later B w)
    (h : Calls P f args x.W fun e w' => e = .returned v ∧ Below B x.W w') : Calls P f args x.W fun e w' => e = .returned v ∧ ∃ y : Later B w, w' = y.W :=
  h.mono fun _ w' ⟨he, hb⟩ => ⟨he, ⟨w', x.h.trans hb⟩, rfl⟩
theorem Later.at {P : Program} {f : FuncId} {args : Array Value} {B : Nat} {w : World} {v : Value} (x : Later B w) (hB : B ≤ w.heap.size)
    (h : Calls P f args x.W fun e w' => e = .returned v ∧ Below x.W.heap.size x.W w') : Calls P f args x.W fun e w' => e = .returned v ∧ ∃ y : Later B w, w' = y.W :=
  h.mono fun _ w' ⟨he, hb⟩ => ⟨he, ⟨w', x.h.trans (hb.mono (Nat.le_trans hB x.h.size))⟩, rfl⟩
/-- append on a row of one's own, as one step of a region that draws. -/
theorem step_append_own {P : Program} {ops : Array Oper} {o : Oper} {a : Act} {w : World} {K : Act → World → Prop} {Q : Exit → Act → World → Prop} {E : Prop}
    (hgd : o.guard = none) (s x : Operand) (t : TypeId) (ho : o.op = .call { callee := .builtin .append, args := #[s, x], argTypes := #[t, t] })
    (base : Nat) (e : TypeId) (i : TypeInfo) (z : Value) (size bytes : Nat) (ht : P.underlying t = some (.slice e)) (hi : P.info? e = some i) (hz : i.zero = some z)
    (hsize : i.size = size) (hby : i.bytes = bytes) (hzs : z.cells.size = size) (hsz : 0 < size)
    (v : Value) (n : Nat) (xs : List Value) (hs : a.eval s = v) (hown : w.ownsRow base e size v n xs)
    (ad : Addr) (m c : Nat) (news : List Value) (hx : a.eval x = .slice (some ad) m c) (hl : news.length = m * size) (hnews : ∀ j u, news[j]? = some u → w.cell? (ad.add j) = some u) (h1 : ∀ u ∈ news, u.oneCell' = true)
    (h63 : n + m ≤ maxLen) (hbytes : (n + m) * bytes ≤ 140737488355328) (hbase : base ≤ w.heap.size)
    (h : ∀ v' w', w'.ownsRow base e size v' (n + m) (xs ++ news) → w.grownBy w' v.ownBlock → (v' = .slice none 0 0 ↔ v = .slice none 0 0 ∧ m = 0) → K (a.put o.dst v') w') :
    if Region.wanted o (yielded ops a.tmps) = true then Oper.wp P o a w K Q else E := by
  have hw : Region.wanted o (yielded ops a.tmps) = true := by simp [Region.wanted, hgd]
  rw [if_pos hw]
  exact wp_append_own w s x t ho base e i z size bytes ht hi hz hsize hby hzs hsz v n xs hs hown ad m c news hx hl hnews h1 h63 hbytes hbase h
end Go.Proofs.YtjaeaanpbdmfgaeGreatDoor

namespace Go.Proofs.YtjaeaanpbdmfgaeGreatDoor
open Go.RowKit

/-- A row of bools in a block. -/
def BoolsAt (w : World) (b n : Nat) (s : Set7) : Prop := ∀ k, k < n → w.cell? ⟨b, k, none⟩ = some (.bool (s k)) ∧ w.frozen? ⟨b, k, none⟩ = false
theorem BoolsAt.congr {w : World} {b n : Nat} {s r : Set7} (h : BoolsAt w b n s) (he : ∀ k, k < n → s k = r k) : BoolsAt w b n r := fun k hk => by rw [← he k hk]; exact h k hk
theorem BoolsAt.drew {w : World} {b n : Nat} {s : Set7} (h : BoolsAt w b n s) : BoolsAt w.drew b n s := h
theorem BoolsAt.drewN {w : World} {b n m : Nat} {s : Set7} (h : BoolsAt w b n s) : BoolsAt (w.drewN m) b n s := h
theorem BoolsAt.lt {w : World} {b n : Nat} {s : Set7} (h : BoolsAt w b n s) (hn : 0 < n) : b < w.heap.size := by
  have := World.block_lt_of_cell? w _ (h 0 hn).1
  simpa using this
theorem BoolsAt.below {w w1 : World} {b n B : Nat} {s : Set7} (h : BoolsAt w b n s) (hb : Below B w w1) (hB : b < B) : BoolsAt w1 b n s := fun k hk => by
  rw [hb.cell (p := ⟨b, k, none⟩) hB, hb.frozen (p := ⟨b, k, none⟩) hB]; exact h k hk
theorem BoolsAt.alloc {w : World} {b n : Nat} {s : Set7} (h : BoolsAt w b n s) (o : Obj) : BoolsAt (w.alloc o) b n s := fun k hk => by
  have hlt : b < w.heap.size := by have := World.block_lt_of_cell? w _ (h k hk).1; simpa using this
  rw [World.cell?_alloc_lt _ _ _ hlt, World.frozen?_alloc_old _ _ _ (Nat.ne_of_lt hlt)]; exact h k hk
theorem BoolsAt.set {w : World} {b n t : Nat} {s : Set7} (h : BoolsAt w b n s) (x : Bool) (ht : t < n) : BoolsAt (w.setCell ⟨b, t, none⟩ (.bool x)) b n (setS s t x) := fun k hk => by
  rw [World.frozen?_setCell]
  refine ⟨?_, (h k hk).2⟩
  unfold setS
  by_cases e : k = t
  · subst e; rw [if_pos rfl]; exact World.cell?_setCell_same _ _ _ (h k hk).1
  · rw [if_neg e, World.cell?_setCell_other _ _ _ _ (by simp <;> omega)]; exact (h k hk).1
theorem BoolsAt.far {w : World} {b n : Nat} {s : Set7} (h : BoolsAt w b n s) {p : Addr} (v : Value) (hp : p.block ≠ b) : BoolsAt (w.setCell p v) b n s := fun k hk => by
  rw [World.frozen?_setCell, World.cell?_setCell_other _ _ _ _ (by intro e; exact hp (congrArg Addr.block e))]; exact h k hk
theorem BoolsAt.grown {w w1 : World} {b n : Nat} {s : Set7} {row : Option Nat} (h : BoolsAt w b n s) (hg : w.grownBy w1 row) (hlt : b < w.heap.size) (hne : row ≠ some b) : BoolsAt w1 b n s := fun k hk => by
  have hb := hg.block b hlt (Ne.symm hne)
  rw [World.cell?_of_block (w := w) (a := ⟨b, k, none⟩) hb, World.frozen?_of_block (w := w) (a := ⟨b, k, none⟩) hb]; exact h k hk
theorem bools7_new (w : World) (s : Set7) (T : TypeId) : BoolsAt (w.alloc (.cells #[.bool (s 0), .bool (s 1), .bool (s 2), .bool (s 3), .bool (s 4), .bool (s 5), .bool (s 6)] T)) w.heap.size 7 s := fun k hk => by
  rw [World.cell?_alloc_new, World.frozen?_alloc_new]
  refine ⟨?_, rfl⟩
  rcases (show k = 0 ∨ k = 1 ∨ k = 2 ∨ k = 3 ∨ k = 4 ∨ k = 5 ∨ k = 6 by omega) with h | h | h | h | h | h | h <;> subst h <;> rfl
end Go.Proofs.YtjaeaanpbdmfgaeGreatDoor

namespace Go.Proofs.YtjaeaanpbdmfgaeGreatDoor
open Go.RowKit

theorem cast_beq (t j : Nat) : ((t : Int) == (j : Int)) = decide (j = t) := by
  rw [Bool.eq_iff_iff]
  simp
  omega
theorem set_named (s : Set7) (t a j : Nat) : setS (setS s t true) a true j = (s j || ((t : Int) == (j : Int) || (a : Int) == (j : Int))) := by
  rw [cast_beq, cast_beq]
  unfold setS
  by_cases h1 : j = a
  · simp [h1]
  · by_cases h2 : j = t <;> simp [h1, h2]

end Go.Proofs.YtjaeaanpbdmfgaeGreatDoor

namespace Go.Proofs.YtjaeaanpbdmfgaeGreatDoor
open Go.RowKit

/-- Two numbers as one. -/
def flatS (s : Step7) : Set7 := fun k => s (k / 7) (k % 7)
def cells49 (s : Step7) : Array Value := ((List.range 49).map fun k => Value.bool (flatS s k)).toArray
theorem cells49_size (s : Step7) : (cells49 s).size = 49 := by simp [cells49]
theorem cells49_at (s : Step7) (k : Nat) (h : k < 49) : (cells49 s)[k]? = some (.bool (flatS s k)) := by simp [cells49, h]
theorem cells49_one (s : Step7) : (cells49 s).all (·.oneCell') = true := by
  rw [Array.all_eq_true_iff_forall_mem]
  intro v hv
  simp only [cells49, List.mem_toArray, List.mem_map] at hv
  obtain ⟨k, _, rfl⟩ := hv
  rfl
theorem flat_two (i k : Nat) (hk : k < 7) (s : Step7) : flatS s (i * 7 + k) = s i k := by
  unfold flatS
  rw [show (i * 7 + k) / 7 = i by omega, show (i * 7 + k) % 7 = k by omega]
def setM (s : Step7) (t a : Nat) : Step7 := fun i k => if i = t ∧ k = a then true else s i k
theorem cells49_set (s : Step7) (t a : Nat) (ha : a < 7) : (cells49 s).setIfInBounds (t * 7 + a) (.bool true) = cells49 (setM s t a) := by
  refine Array.ext_getElem? fun j => ?_
  rw [Array.getElem?_setIfInBounds, cells49_size]
  by_cases hj : j < 49
  · rw [cells49_at _ j hj, cells49_at _ j hj]
    unfold flatS setM
    by_cases e : t * 7 + a = j
    · rw [if_pos e, if_pos (by omega), if_pos (by omega)]
    · rw [if_neg e, if_neg (by omega)]
  · have h1 : ∀ r, (cells49 r)[j]? = none := fun r => Array.getElem?_eq_none (by rw [cells49_size]; omega)
    rw [h1, h1]
    by_cases e : t * 7 + a = j
    · rw [if_pos e, if_neg (by omega)]
    · rw [if_neg e]
def MatAt (w : World) (b : Nat) (s : Step7) : Prop := w.heap[b]? = some (.cells (cells49 s) 139 (0, 0))
theorem MatAt.lt {w : World} {b : Nat} {s : Step7} (h : MatAt w b s) : b < w.heap.size := by
  have h' : w.heap[b]? = some _ := h
  exact (Array.getElem?_eq_some_iff.1 h').1
theorem MatAt.cell {w : World} {b : Nat} {s : Step7} (h : MatAt w b s) {i k : Nat} (hi : i < 7) (hk : k < 7) : w.cell? ⟨b, i * 7 + k, none⟩ = some (.bool (s i k)) := by
  rw [cell_of_row w b _ _ _ _ h, cells49_at s _ (by omega), flat_two i k hk]
theorem MatAt.thaw {w : World} {b : Nat} {s : Step7} (h : MatAt w b s) (k : Nat) : w.frozen? ⟨b, k, none⟩ = false := by
  have h' : w.heap[b]? = some _ := h
  simp [World.frozen?, h']
theorem MatAt.drew {w : World} {b : Nat} {s : Step7} (h : MatAt w b s) : MatAt w.drew b s := h
theorem MatAt.below {w w1 : World} {b B : Nat} {s : Step7} (h : MatAt w b s) (hb : Below B w w1) (hB : b < B) : MatAt w1 b s := (hb.block b hB).trans h
theorem MatAt.alloc {w : World} {b : Nat} {s : Step7} (h : MatAt w b s) (o : Obj) : MatAt (w.alloc o) b s := (Below.heap_alloc w o b h.lt).trans h
theorem MatAt.far {w : World} {b : Nat} {s : Step7} (h : MatAt w b s) {p : Addr} (v : Value) (hp : b ≠ p.block) : MatAt (w.setCell p v) b s := (Below.heap_setCell w p v b hp).trans h
theorem MatAt.set {w : World} {b t a : Nat} {s : Step7} (h : MatAt w b s) (ha : a < 7) : MatAt (w.setCell ⟨b, t * 7 + a, none⟩ (.bool true)) b (setM s t a) := by
  have h' : w.heap[b]? = some (.cells (cells49 s) 139 (0, 0)) := h
  unfold MatAt World.setCell
  rw [Array.getElem?_modify]
  simp [h', cells49_set s t a ha]
theorem MatAt.congr {w : World} {b : Nat} {s r : Step7} (h : MatAt w b s) (he : s = r) : MatAt w b r := he ▸ h
theorem mat_box (w : World) (s : Step7) : MatAt (w.alloc (.cells (cells49 s) 139)) w.heap.size s := by
  unfold MatAt World.alloc
  simp
theorem mat_fresh (w : World) (c : Array Value) (h : cells49 (fun _ _ => false) = c) : MatAt (w.alloc (.cells c 139)) w.heap.size (fun _ _ => false) := h ▸ mat_box w _
theorem mat_fresh2 (w : World) (o : Obj) (c : Array Value) (h : cells49 (fun _ _ => false) = c) : MatAt ((w.alloc o).alloc (.cells c 139)) (w.heap.size + 1) (fun _ _ => false) := by
  have := mat_fresh (w.alloc o) c h
  simpa using this
theorem mat_info : (Tryz.prog.info? 139).map (·.size) = some 49 := by kernel_rfl
theorem mat_info' (s : Step7) : (Tryz.prog.info? 139).map (·.size) = some (cells49 s).size := by rw [cells49_size]; exact mat_info
end Go.Proofs.YtjaeaanpbdmfgaeGreatDoor

namespace Go.Proofs.YtjaeaanpbdmfgaeGreatDoor

/-- A place of the square ahead of another one. -/
def befB (i k a b : Nat) : Bool := decide (1 ≤ a ∧ a ≤ 6 ∧ 1 ≤ b ∧ b ≤ 6 ∧ (a < i ∨ (a = i ∧ b < k)))
/-- By one deal more, as far as the loops have come. -/
def partW (W : Step7) (m i k : Nat) : Step7 := fun a b => W a b || (befB i k a b && (W a m && W m b))
theorem part_col (W : Step7) (m i k a : Nat) : partW W m i k a m = W a m := by
  unfold partW
  cases W a m <;> simp
theorem part_row (W : Step7) (m i k b : Nat) : partW W m i k m b = W m b := by
  unfold partW
  cases W m b <;> simp
theorem part_start (W : Step7) (m : Nat) : partW W m 1 1 = W := by
  funext a b
  unfold partW
  have : befB 1 1 a b = false := by unfold befB; simp; omega
  rw [this]; simp
theorem part_line (W : Step7) (m i : Nat) : partW W m i 7 = partW W m (i + 1) 1 := by
  funext a b
  unfold partW
  have : befB i 7 a b = befB (i + 1) 1 a b := by unfold befB; rw [decide_eq_decide]; omega
  rw [this]
theorem part_set (W : Step7) (m i k : Nat) (hi : 1 ≤ i ∧ i ≤ 6) (hk : 1 ≤ k ∧ k ≤ 6) (h : (W i m && W m k) = true) : setM (partW W m i k) i k = partW W m i (k + 1) := by
  funext a b
  unfold setM partW
  by_cases e : a = i ∧ b = k
  · rw [if_pos e, e.1, e.2, h]
    have : befB i (k + 1) i k = true := by unfold befB; simp; omega
    rw [this]; simp
  · rw [if_neg e]
    have : befB i k a b = befB i (k + 1) a b := by unfold befB; rw [decide_eq_decide]; omega
    rw [this]
theorem part_skip (W : Step7) (m i k : Nat) (h : (W i m && W m k) = false) : partW W m i k = partW W m i (k + 1) := by
  funext a b
  unfold partW
  by_cases e : a = i ∧ b = k
  · rw [e.1, e.2, h]; simp
  · have : befB i k a b = befB i (k + 1) a b := by unfold befB; rw [decide_eq_decide]; omega
    rw [this]
def warTo (l : List Edge2) : Nat → Step7
  | 0 => stepsS l
  | n + 1 => partW (warTo l n) (n + 1) 7 1
theorem war_sound (l : List Edge2) : ∀ n i k, warTo l n i k = true → Way (stepsS l) i k := by
  intro n
  induction n with
  | zero => intro i k h; exact .one h
  | succ n ih =>
    intro i k h
    unfold warTo partW at h
    simp only [Bool.or_eq_true, Bool.and_eq_true] at h
    rcases h with h | ⟨_, h1, h2⟩
    · exact ih _ _ h
    · exact (ih _ _ h1).trans (ih _ _ h2)
theorem war_more (l : List Edge2) (n i k : Nat) (h : warTo l n i k = true) : warTo l (n + 1) i k = true := by
  unfold warTo partW
  rw [h]; rfl
theorem war_base (l : List Edge2) : ∀ n i k, stepsS l i k = true → warTo l n i k = true := by
  intro n
  induction n with
  | zero => intro i k h; exact h
  | succ n ih => intro i k h; exact war_more l n i k (ih i k h)
def Deal (i : Nat) : Prop := 1 ≤ i ∧ i ≤ 6
theorem war_step {l : List Edge2} {n i k : Nat} (hi : Deal i) (hk : Deal k) : warTo l (n + 1) i k = (warTo l n i k || (warTo l n i (n + 1) && warTo l n (n + 1) k)) := by
  show partW (warTo l n) (n + 1) 7 1 i k = _
  unfold partW
  have : befB 7 1 i k = true := by unfold befB; unfold Deal at hi hk; simp; omega
  rw [this, Bool.true_and]
theorem war_shut (l : List Edge2) : ∀ n, n ≤ 6 → ∀ j, 1 ≤ j → j ≤ n → ∀ i k, Deal i → Deal k → warTo l n i j = true → warTo l n j k = true → warTo l n i k = true := by
  intro n
  induction n with
  | zero => intro _ j h1 h2; omega
  | succ n ih =>
    intro hn j h1 h2 i k hi hk hij hjk
    have hm : Deal (n + 1) := ⟨by omega, hn⟩
    have hj : Deal j := ⟨h1, by omega⟩
    have ih' := ih (by omega)
    rw [war_step hi hj] at hij
    rw [war_step hj hk] at hjk
    rw [war_step hi hk]
    simp only [Bool.or_eq_true, Bool.and_eq_true] at hij hjk ⊢
    by_cases e : j = n + 1
    · subst e
      have a1 : warTo l n i (n + 1) = true := by rcases hij with h | h; exact h; exact h.1
      have a2 : warTo l n (n + 1) k = true := by rcases hjk with h | h; exact h; exact h.2
      exact .inr ⟨a1, a2⟩
    · have hjn : j ≤ n := by omega
      rcases hij with h | ⟨h, h'⟩
      · rcases hjk with g | ⟨g, g'⟩
        · exact .inl (ih' j h1 hjn i k hi hk h g)
        · exact .inr ⟨ih' j h1 hjn i (n + 1) hi hm h g, g'⟩
      · rcases hjk with g | ⟨g, g'⟩
        · exact .inr ⟨h, ih' j h1 hjn (n + 1) k hm hk h' g⟩
        · exact .inr ⟨h, g'⟩
theorem war_full {l : List Edge2} (hr : Right l) {i k : Nat} (h : Way (stepsS l) i k) : warTo l 6 i k = true := by
  have h2 : warTo l 6 i k = true ∧ Deal i ∧ Deal k := way_ind (R := fun i k => warTo l 6 i k = true ∧ Deal i ∧ Deal k)
    (fun x y e => ⟨war_base l 6 x y e, (steps_lt hr e).1, (steps_lt hr e).2⟩)
    (fun x y z e _ ih => ⟨war_shut l 6 (by omega) y (steps_lt hr e).2.1 (steps_lt hr e).2.2 x z (steps_lt hr e).1 ih.2.2 (war_base l 6 x y e) ih.1, (steps_lt hr e).1, ih.2.2⟩) h
  exact h2.1
theorem war_way {l : List Edge2} (hr : Right l) (i k : Nat) : warTo l 6 i k = true ↔ Way (stepsS l) i k := ⟨war_sound l 6 i k, war_full hr⟩
end Go.Proofs.YtjaeaanpbdmfgaeGreatDoor

namespace Go.Proofs.YtjaeaanpbdmfgaeGreatDoor

/-- How things stand while deals ask. -/
structure Runr where
  tab : Tab2
  waits : Int → Bool
  op : Int → Op3
  behind : Int → List Op3
  out : Int → Bool
  told : List Op3
  vict : List Int
def setF {α : Type} (f : Int → α) (t : Int) (x : α) : Int → α := fun j => if j = t then x else f j
theorem setF_same {α : Type} (f : Int → α) (t : Int) (x : α) : setF f t x t = x := if_pos rfl
theorem setF_other {α : Type} (f : Int → α) {t d : Int} (x : α) (h : d ≠ t) : setF f t x d = f d := if_neg h
def run0 : Runr := ⟨([], []), fun _ => false, fun _ => (0, 0, 0), fun _ => [], fun _ => false, [], []⟩
/-- For whom a deal waits. -/
def whomR (s : Tab2) (t : Int) : List Int := match s.2.find? (fun y => y.1 == t) with | none => [] | some x => forT s x
/-- Who waits for whom, as edges. -/
def edgesR (s : Tab2) : List Edge2 := (List.range 6).flatMap fun (d : Nat) => (whomR s ((d : Int) + 1)).map fun x => ((d : Int) + 1, x)
/-- Does a deal wait for itself? -/
def ringR (s : Tab2) (t : Int) : Bool := warTo (edgesR s) 6 t.toNat t.toNat
def drainN (doF : Runr → Op3 → Runr) (d : Int) : Nat → Runr → Runr
  | 0, r => r
  | m + 1, r => if r.waits d = true then r else match r.behind d with | [] => r | o :: q => drainN doF d m (doF { r with behind := setF r.behind d q } o)
def grantR (doF : Runr → Op3 → Runr) (r : Runr) (x : Op3) : Runr :=
  if r.waits x.1 = true then drainN doF x.1 (r.behind x.1).length { r with waits := setF r.waits x.1 false, told := r.told ++ [r.op x.1] } else r
def freeR (doF : Runr → Op3 → Runr) (r : Runr) (t : Int) : Runr := (freeT r.tab t).2.foldl (grantR doF) { r with tab := (freeT r.tab t).1 }
def abort0 (r : Runr) (t : Int) : Runr := { r with out := setF r.out t true, vict := r.vict ++ [t], told := r.told ++ [(t, 4, 0)], waits := setF r.waits t false, behind := setF r.behind t [] }
def abortR (doF : Runr → Op3 → Runr) (r : Runr) (t : Int) : Runr := freeR doF (abort0 r t) t
/-- The least for whom a deal waits that is younger. -/
def youngR (s : Tab2) (t : Int) : Option Int := (whomR s t).find? fun x => decide (t < x)
def woundN (doF : Runr → Op3 → Runr) (t : Int) : Nat → Runr → Runr
  | 0, r => r
  | n + 1, r => match youngR r.tab t with | none => r | some v => woundN doF t n (abortR doF r v)
def wait0 (r : Runr) (o : Op3) : Runr := { r with tab := (askT r.tab (o.1, o.2.2, o.2.1)).2, waits := setF r.waits o.1 true, op := setF r.op o.1 o }
def wayR (way : Int) (doF : Runr → Op3 → Runr) (r : Runr) (t : Int) : Runr :=
  if way = 0 then (if ringR r.tab t = true then abortR doF r t else r)
  else if way = 1 then (match whomR r.tab t with | [] => r | x :: _ => if x < t then abortR doF r t else r)
  else woundN doF t 7 r
def doW (way : Int) (doF : Runr → Op3 → Runr) (r : Runr) (o : Op3) : Runr :=
  if 3 ≤ o.2.1 then freeR doF { r with told := r.told ++ [o] } o.1
  else if (askT r.tab (o.1, o.2.2, o.2.1)).1.1 = true then { r with tab := (askT r.tab (o.1, o.2.2, o.2.1)).2, told := r.told ++ [o] }
  else wayR way doF (wait0 r o) o.1
def doN (way : Int) : Nat → Runr → Op3 → Runr
  | 0 => fun r _ => r
  | n + 1 => doW way (doN way n)
/-- An op comes. -/
def comeR (way : Int) (r : Runr) (o : Op3) : Runr :=
  if r.out o.1 = true then r else if r.waits o.1 = true then { r with behind := setF r.behind o.1 (r.behind o.1 ++ [o]) } else doN way 41 r o
def strictR (way : Int) (l : List Op3) : Runr := l.foldl (comeR way) run0

/-- How many deals are so. -/
def cnt6 (f : Int → Bool) : Nat := (f 1).toNat + (f 2).toNat + (f 3).toNat + (f 4).toNat + (f 5).toNat + (f 6).toNat
def sum6 (f : Int → List Op3) : Nat := (f 1).length + (f 2).length + (f 3).length + (f 4).length + (f 5).length + (f 6).length
theorem six {d : Int} (h1 : 1 ≤ d) (h6 : d ≤ 6) : d = 1 ∨ d = 2 ∨ d = 3 ∨ d = 4 ∨ d = 5 ∨ d = 6 := by omega
theorem cnt_true {f : Int → Bool} {d : Int} (h1 : 1 ≤ d) (h6 : d ≤ 6) : cnt6 (setF f d true) ≤ cnt6 f + 1 := by
  rcases six h1 h6 with rfl | rfl | rfl | rfl | rfl | rfl <;> simp [cnt6, setF] <;> omega
theorem cnt_false {f : Int → Bool} {d : Int} : cnt6 (setF f d false) ≤ cnt6 f := by
  have h : ∀ j : Int, (setF f d false j).toNat ≤ (f j).toNat := fun j => by unfold setF; split <;> simp
  have := h 1; have := h 2; have := h 3; have := h 4; have := h 5; have := h 6
  unfold cnt6
  omega
theorem cnt_drop {f : Int → Bool} {d : Int} (h1 : 1 ≤ d) (h6 : d ≤ 6) (h : f d = true) : cnt6 (setF f d false) + 1 = cnt6 f := by
  rcases six h1 h6 with rfl | rfl | rfl | rfl | rfl | rfl <;> simp [cnt6, setF, h] <;> omega
theorem cnt_mono {f g : Int → Bool} (h : ∀ d, f d = true → g d = true) : cnt6 f ≤ cnt6 g := by
  have h' : ∀ j : Int, (f j).toNat ≤ (g j).toNat := fun j => by
    cases hf : f j with
    | false => simp
    | true => rw [h j hf]; simp
  have := h' 1; have := h' 2; have := h' 3; have := h' 4; have := h' 5; have := h' 6
  unfold cnt6
  omega
theorem sum_mono {f g : Int → List Op3} (h : ∀ d, (f d).length ≤ (g d).length) : sum6 f ≤ sum6 g := by
  have := h 1; have := h 2; have := h 3; have := h 4; have := h 5; have := h 6
  unfold sum6
  omega
theorem sum_pop {f : Int → List Op3} {d : Int} {o : Op3} {q : List Op3} (h1 : 1 ≤ d) (h6 : d ≤ 6) (h : f d = o :: q) : sum6 (setF f d q) + 1 = sum6 f := by
  rcases six h1 h6 with rfl | rfl | rfl | rfl | rfl | rfl <;> simp [sum6, setF, h] <;> omega
theorem sum_push {f : Int → List Op3} {d : Int} (o : Op3) (h1 : 1 ≤ d) (h6 : d ≤ 6) : sum6 (setF f d (f d ++ [o])) = sum6 f + 1 := by
  rcases six h1 h6 with rfl | rfl | rfl | rfl | rfl | rfl <;> simp [sum6, setF] <;> omega
theorem sum_le {f : Int → List Op3} {d : Int} (h1 : 1 ≤ d) (h6 : d ≤ 6) : (f d).length ≤ sum6 f := by
  rcases six h1 h6 with rfl | rfl | rfl | rfl | rfl | rfl <;> simp [sum6] <;> omega
/-- What all of it comes to: what is told, what stands behind, who waits, who is not aborted. -/
def pot (r : Runr) : Nat := r.told.length + sum6 r.behind + cnt6 r.waits + cnt6 fun d => !r.out d
/-- What is always so. -/
structure Good (r : Runr) : Prop where
  t1 : ∀ x ∈ r.tab.1, r.out x.1 = false ∧ 1 ≤ x.1 ∧ x.1 ≤ 6
  t2 : ∀ x ∈ r.tab.2, r.out x.1 = false ∧ 1 ≤ x.1 ∧ x.1 ≤ 6
  gone : ∀ d, r.out d = true → r.behind d = []
  ops : ∀ d, ∀ o ∈ r.behind d, o.1 = d ∧ isOpB o = true
  size : r.tab.1.length + r.tab.2.length ≤ r.told.length + cnt6 r.waits
  vict : r.vict.length + (cnt6 fun d => !r.out d) ≤ 6
  wait : ∀ d, r.waits d = true → 1 ≤ d ∧ d ≤ 6
theorem good0 : Good run0 := ⟨fun x h => (by cases h), fun x h => (by cases h), fun d h => (by cases h), fun d o h => (by cases h), by decide, by decide, fun d h => (by cases h)⟩
/-- From one to the other. -/
structure Step (r r' : Runr) (c : Nat) : Prop where
  good : Good r'
  less : ∀ d, (r'.behind d).length ≤ (r.behind d).length
  outs : ∀ d, r.out d = true → r'.out d = true
  pots : pot r' ≤ pot r + c
theorem Step.refl {r : Runr} (h : Good r) : Step r r 0 := ⟨h, fun _ => Nat.le_refl _, fun _ h => h, Nat.le_refl _⟩
theorem Step.trans {r s u : Runr} {a b c : Nat} (h : Step r s a) (k : Step s u b) (hc : a + b ≤ c) : Step r u c :=
  ⟨k.good, fun d => Nat.le_trans (k.less d) (h.less d), fun d hd => k.outs d (h.outs d hd), by have := h.pots; have := k.pots; omega⟩
theorem Step.mono {r s : Runr} {a b : Nat} (h : Step r s a) (hab : a ≤ b) : Step r s b := ⟨h.good, h.less, h.outs, by have := h.pots; omega⟩
def DoOk (doF : Runr → Op3 → Runr) : Prop := ∀ r o, Good r → r.out o.1 = false → r.waits o.1 = false → isOpB o = true → Step r (doF r o) 1
theorem isOp_range {o : Op3} (h : isOpB o = true) : 1 ≤ o.1 ∧ o.1 ≤ 6 := by
  simp [isOpB] at h
  omega
theorem mem_putL {l : List Int} {n x : Int} (h : x ∈ putL l n) : x = n ∨ x ∈ l := by
  induction l with
  | nil => simp [putL] at h; exact .inl h
  | cons y r ih =>
    unfold putL at h
    split at h
    · exact .inr h
    · split at h
      · rcases List.mem_cons.1 h with h | h
        · exact .inl h
        · exact .inr h
      · rcases List.mem_cons.1 h with h | h
        · exact .inr (h ▸ List.mem_cons_self)
        · rcases ih h with h | h
          · exact .inl h
          · exact .inr (List.mem_cons_of_mem _ h)
theorem mem_putsO {l : List Op3} {x : Int} : ∀ {o : List Int}, x ∈ putsO o l → x ∈ o ∨ ∃ y ∈ l, y.1 = x := by
  induction l with
  | nil => intro o h; exact .inl h
  | cons z r ih =>
    intro o h
    rcases ih (o := putL o z.1) h with h | ⟨y, hy, he⟩
    · rcases mem_putL h with h | h
      · exact .inr ⟨z, List.mem_cons_self, h.symm⟩
      · exact .inl h
    · exact .inr ⟨y, List.mem_cons_of_mem _ hy, he⟩
/-- For whom one waits has a lock, or waits for one. -/
theorem mem_whom {s : Tab2} {t x : Int} (h : x ∈ whomR s t) : (∃ y ∈ s.1, y.1 = x) ∨ ∃ y ∈ s.2, y.1 = x := by
  unfold whomR at h
  split at h
  · cases h
  · unfold forT at h
    rcases mem_putsO h with h | ⟨y, hy, he⟩
    · rcases mem_putsO h with h | ⟨y, hy, he⟩
      · cases h
      · exact .inl ⟨y, (List.mem_filter.1 hy).1, he⟩
    · exact .inr ⟨y, (List.takeWhile_subset _) (List.mem_filter.1 hy).1, he⟩
theorem mem_grants {l : List Op3} {x : Op3} : ∀ {s : Tab2 × List Op3}, (x ∈ (grants s l).1.1 → x ∈ s.1.1 ∨ x ∈ l) ∧ (x ∈ (grants s l).1.2 → x ∈ s.1.2 ∨ x ∈ l) ∧ (x ∈ (grants s l).2 → x ∈ s.2 ∨ x ∈ l) := by
  induction l with
  | nil => intro s; exact ⟨.inl, .inl, .inl⟩
  | cons y r ih =>
    intro s
    have h := ih (s := grant s y)
    have hg : (x ∈ (grant s y).1.1 → x ∈ s.1.1 ∨ x = y) ∧ (x ∈ (grant s y).1.2 → x ∈ s.1.2 ∨ x = y) ∧ (x ∈ (grant s y).2 → x ∈ s.2 ∨ x = y) := by
      unfold grant
      split
      · refine ⟨fun hh => ?_, fun hh => .inl hh, fun hh => ?_⟩
        · rcases mem_holdL hh with h | h
          · exact .inr h
          · exact .inl h
        · rcases List.mem_append.1 hh with h | h
          · exact .inl h
          · exact .inr (List.mem_singleton.1 h)
      · refine ⟨fun hh => .inl hh, fun hh => ?_, fun hh => .inl hh⟩
        rcases List.mem_append.1 hh with h | h
        · exact .inl h
        · exact .inr (List.mem_singleton.1 h)
    refine ⟨fun hh => ?_, fun hh => ?_, fun hh => ?_⟩
    · rcases h.1 hh with h1 | h1
      · rcases hg.1 h1 with h2 | h2
        · exact .inl h2
        · exact .inr (by simp [h2])
      · exact .inr (by simp [h1])
    · rcases h.2.1 hh with h1 | h1
      · rcases hg.2.1 h1 with h2 | h2
        · exact .inl h2
        · exact .inr (by simp [h2])
      · exact .inr (by simp [h1])
    · rcases h.2.2 hh with h1 | h1
      · rcases hg.2.2 h1 with h2 | h2
        · exact .inl h2
        · exact .inr (by simp [h2])
      · exact .inr (by simp [h1])
theorem mem_free {s : Tab2} {t : Int} {x : Op3} : (x ∈ (freeT s t).1.1 → (x ∈ s.1 ∨ x ∈ s.2) ∧ x.1 ≠ t) ∧ (x ∈ (freeT s t).1.2 → x ∈ s.2 ∧ x.1 ≠ t) ∧ (x ∈ (freeT s t).2 → x ∈ s.2 ∧ x.1 ≠ t) := by
  have h := mem_grants (l := withoutL s.2 t) (x := x) (s := ((withoutL s.1 t, []), []))
  have hw : ∀ l : List Op3, x ∈ withoutL l t → x ∈ l ∧ x.1 ≠ t := fun l hl => ⟨(List.mem_filter.1 hl).1, by simpa using (List.mem_filter.1 hl).2⟩
  unfold freeT
  refine ⟨fun hh => ?_, fun hh => ?_, fun hh => ?_⟩
  · rcases h.1 hh with h1 | h1
    · exact ⟨.inl (hw _ h1).1, (hw _ h1).2⟩
    · exact ⟨.inr (hw _ h1).1, (hw _ h1).2⟩
  · rcases h.2.1 hh with h1 | h1
    · cases h1
    · exact hw _ h1
  · rcases h.2.2 hh with h1 | h1
    · cases h1
    · exact hw _ h1
theorem mem_ask {s : Tab2} {y x : Op3} : (x ∈ (askT s y).2.1 → x ∈ s.1 ∨ x = y) ∧ (x ∈ (askT s y).2.2 → x ∈ s.2 ∨ x = y) := by
  unfold askT
  split
  · exact ⟨.inl, .inl⟩
  · split
    · exact ⟨.inl, .inl⟩
    · split
      · exact ⟨.inl, .inl⟩
      · split
        · refine ⟨fun hh => ?_, .inl⟩
          rcases mem_holdL hh with h | h
          · exact .inr h
          · exact .inl h
        · refine ⟨.inl, fun hh => ?_⟩
          rcases List.mem_append.1 hh with h | h
          · exact .inl h
          · exact .inr (List.mem_singleton.1 h)

theorem drain_ok {doF : Runr → Op3 → Runr} (hF : DoOk doF) (d : Int) : ∀ (m : Nat) (r : Runr), Good r → 1 ≤ d → d ≤ 6 → Step r (drainN doF d m r) 0 := by
  intro m
  induction m with
  | zero => intro r h _ _; exact Step.refl h
  | succ m ih =>
    intro r h h1 h6
    unfold drainN
    split
    · exact Step.refl h
    · rename_i hwd
      split
      · exact Step.refl h
      · rename_i o q hb
        have ho := h.ops d o (by rw [hb]; exact List.mem_cons_self)
        have hout : r.out d = false := by
          cases he : r.out d with
          | false => rfl
          | true => rw [h.gone d he] at hb; cases hb
        have hs : Step r { r with behind := setF r.behind d q } 0 := by
          refine ⟨⟨h.t1, h.t2, fun e he => ?_, fun e p hp => ?_, h.size, h.vict, h.wait⟩, fun e => ?_, fun _ he => he, ?_⟩
          · show setF r.behind d q e = []
            unfold setF
            split
            · rename_i hed
              subst hed
              rw [hout] at he
              cases he
            · exact h.gone e he
          · have hp' : p ∈ setF r.behind d q e := hp
            unfold setF at hp'
            split at hp'
            · rename_i hed
              subst hed
              exact h.ops e p (by rw [hb]; exact List.mem_cons_of_mem _ hp')
            · exact h.ops e p hp'
          · show (setF r.behind d q e).length ≤ _
            unfold setF
            split
            · rename_i hed
              subst hed
              rw [hb]
              simp
            · exact Nat.le_refl _
          · have := sum_pop h1 h6 hb
            unfold pot
            dsimp only
            omega
        have hs1 : Step r (doF { r with behind := setF r.behind d q } o) 0 := by
          have h2 := hF { r with behind := setF r.behind d q } o hs.good (by rw [ho.1]; exact hout) (by rw [ho.1]; simpa using hwd) ho.2
          refine ⟨h2.good, fun e => Nat.le_trans (h2.less e) (hs.less e), fun e he => h2.outs e he, ?_⟩
          have h3 := h2.pots
          have h4 := sum_pop h1 h6 hb
          have h5 : pot { r with behind := setF r.behind d q } + 1 = pot r := by
            unfold pot
            dsimp only
            omega
          omega
        exact hs1.trans (ih _ hs1.good h1 h6) (Nat.le_refl _)
theorem grant_ok {doF : Runr → Op3 → Runr} (hF : DoOk doF) (x : Op3) (r : Runr) (h : Good r) : Step r (grantR doF r x) 0 := by
  unfold grantR
  split
  · rename_i hw
    obtain ⟨h1, h6⟩ := h.wait _ hw
    have hc := cnt_drop h1 h6 hw
    have hs : Step r { r with waits := setF r.waits x.1 false, told := r.told ++ [r.op x.1] } 0 := by
      refine ⟨⟨h.t1, h.t2, h.gone, h.ops, ?_, h.vict, fun d hd => ?_⟩, fun _ => Nat.le_refl _, fun _ he => he, ?_⟩
      · have := h.size
        dsimp only
        rw [List.length_append, List.length_singleton]
        omega
      · have hd' : setF r.waits x.1 false d = true := hd
        unfold setF at hd'
        split at hd'
        · cases hd'
        · exact h.wait d hd'
      · unfold pot
        dsimp only
        rw [List.length_append, List.length_singleton]
        omega
    exact hs.trans (drain_ok hF x.1 _ _ hs.good h1 h6) (Nat.le_refl _)
  · exact Step.refl h
theorem grants_ok {doF : Runr → Op3 → Runr} (hF : DoOk doF) (l : List Op3) : ∀ r : Runr, Good r → Step r (l.foldl (grantR doF) r) 0 := by
  induction l with
  | nil => intro r h; exact Step.refl h
  | cons x q ih =>
    intro r h
    rw [List.foldl_cons]
    have h1 := grant_ok hF x r h
    exact h1.trans (ih _ h1.good) (Nat.le_refl _)
theorem free_good {r : Runr} (h : Good r) (t : Int) : Good { r with tab := (freeT r.tab t).1 } := by
  refine ⟨fun x hx => ?_, fun x hx => ?_, h.gone, h.ops, ?_, h.vict, h.wait⟩
  · rcases (mem_free.1 hx).1 with h1 | h1
    · exact h.t1 x h1
    · exact h.t2 x h1
  · exact h.t2 x (mem_free.2.1 hx).1
  · have := free_sum r.tab t
    have := h.size
    show (freeT r.tab t).1.1.length + (freeT r.tab t).1.2.length ≤ r.told.length + cnt6 r.waits
    omega
theorem freeR_ok {doF : Runr → Op3 → Runr} (hF : DoOk doF) (t : Int) (r : Runr) (h : Good r) : Step r (freeR doF r t) 0 := by
  unfold freeR
  have hs : Step r { r with tab := (freeT r.tab t).1 } 0 := ⟨free_good h t, fun _ => Nat.le_refl _, fun _ he => he, Nat.le_refl _⟩
  exact hs.trans (grants_ok hF _ _ hs.good) (Nat.le_refl _)
/-- Of one that is aborted nothing is left when all of it is free. -/
theorem abort_good {r : Runr} {t : Int} (h : Good r) (h1 : 1 ≤ t) (h6 : t ≤ 6) (ho : r.out t = false) : Good { abort0 r t with tab := (freeT r.tab t).1 } := by
  have hc : (cnt6 fun d => !setF r.out t true d) + 1 = cnt6 fun d => !r.out d := by
    rw [← cnt_drop (f := fun d => !r.out d) h1 h6 (by simp [ho])]
    congr 2
    funext d
    unfold setF
    split <;> rfl
  refine ⟨fun x hx => ?_, fun x hx => ?_, fun d hd => ?_, fun d o hd => ?_, ?_, ?_, fun d hd => ?_⟩
  · obtain ⟨hm, hne⟩ := mem_free.1 hx
    show setF r.out t true x.1 = false ∧ _
    rw [setF_other _ _ hne]
    rcases hm with hm | hm
    · exact h.t1 x hm
    · exact h.t2 x hm
  · obtain ⟨hm, hne⟩ := mem_free.2.1 hx
    show setF r.out t true x.1 = false ∧ _
    rw [setF_other _ _ hne]
    exact h.t2 x hm
  · have hd' : setF r.out t true d = true := hd
    show setF r.behind t [] d = []
    unfold setF at hd' ⊢
    split
    · rfl
    · rename_i hne
      rw [if_neg hne] at hd'
      exact h.gone d hd'
  · have hd' : o ∈ setF r.behind t [] d := hd
    unfold setF at hd'
    split at hd'
    · cases hd'
    · exact h.ops d o hd'
  · have h2 := free_sum r.tab t
    have h3 := h.size
    have h4 : cnt6 r.waits ≤ cnt6 (setF r.waits t false) + 1 := by
      cases hw : r.waits t with
      | true => have := cnt_drop h1 h6 hw; omega
      | false =>
        have : cnt6 r.waits ≤ cnt6 (setF r.waits t false) := cnt_mono fun d hd => by
          unfold setF
          split
          · rename_i e
            rw [e, hw] at hd
            cases hd
          · exact hd
        omega
    show (freeT r.tab t).1.1.length + (freeT r.tab t).1.2.length ≤ (r.told ++ [(t, 4, 0)]).length + cnt6 (setF r.waits t false)
    rw [List.length_append, List.length_singleton]
    omega
  · have := h.vict
    show (r.vict ++ [t]).length + (cnt6 fun d => !setF r.out t true d) ≤ 6
    rw [List.length_append, List.length_singleton]
    omega
  · have hd' : setF r.waits t false d = true := hd
    unfold setF at hd'
    split at hd'
    · cases hd'
    · exact h.wait d hd'
theorem abort_ok {doF : Runr → Op3 → Runr} (hF : DoOk doF) {t : Int} {r : Runr} (h : Good r) (h1 : 1 ≤ t) (h6 : t ≤ 6) (ho : r.out t = false) : Step r (abortR doF r t) 0 ∧ (abortR doF r t).out t = true := by
  have hg := abort_good h h1 h6 ho
  have hc : (cnt6 fun d => !setF r.out t true d) + 1 = cnt6 fun d => !r.out d := by
    rw [← cnt_drop (f := fun d => !r.out d) h1 h6 (by simp [ho])]
    congr 2
    funext d
    unfold setF
    split <;> rfl
  have hs : Step r { abort0 r t with tab := (freeT r.tab t).1 } 0 := by
    refine ⟨hg, fun d => ?_, fun d hd => ?_, ?_⟩
    · show (setF r.behind t [] d).length ≤ _
      unfold setF
      split
      · simp
      · exact Nat.le_refl _
    · show setF r.out t true d = true
      unfold setF
      split
      · rfl
      · exact hd
    · have h2 : sum6 (setF r.behind t []) ≤ sum6 r.behind := sum_mono fun d => by
        unfold setF
        split
        · simp
        · exact Nat.le_refl _
      have h3 := cnt_false (f := r.waits) (d := t)
      unfold pot
      unfold abort0
      dsimp only
      rw [List.length_append, List.length_singleton]
      omega
  have hk := grants_ok hF (freeT r.tab t).2 _ hg
  refine ⟨hs.trans hk (Nat.le_refl _), hk.outs t ?_⟩
  show setF r.out t true t = true
  exact setF_same _ _ _
theorem young_mem {s : Tab2} {t v : Int} (h : youngR s t = some v) : v ∈ whomR s t ∧ t < v := by
  unfold youngR at h
  exact ⟨List.mem_of_find?_eq_some h, by simpa using List.find?_some h⟩
theorem whom_deal {r : Runr} (h : Good r) {t v : Int} (hv : v ∈ whomR r.tab t) : r.out v = false ∧ 1 ≤ v ∧ v ≤ 6 := by
  rcases mem_whom hv with ⟨y, hy, rfl⟩ | ⟨y, hy, rfl⟩
  · exact h.t1 y hy
  · exact h.t2 y hy
theorem wound_ok {doF : Runr → Op3 → Runr} (hF : DoOk doF) (t : Int) : ∀ (n : Nat) (r : Runr), Good r → Step r (woundN doF t n r) 0 := by
  intro n
  induction n with
  | zero => intro r h; exact Step.refl h
  | succ n ih =>
    intro r h
    unfold woundN
    split
    · exact Step.refl h
    · rename_i v hv
      obtain ⟨ho, h1, h6⟩ := whom_deal h (young_mem hv).1
      have hs := (abort_ok hF h h1 h6 ho).1
      exact hs.trans (ih _ hs.good) (Nat.le_refl _)
theorem way_ok {doF : Runr → Op3 → Runr} (hF : DoOk doF) (way t : Int) (r : Runr) (h : Good r) (h1 : 1 ≤ t) (h6 : t ≤ 6) (ho : r.out t = false) : Step r (wayR way doF r t) 0 := by
  unfold wayR
  split
  · split
    · exact (abort_ok hF h h1 h6 ho).1
    · exact Step.refl h
  · split
    · split
      · exact Step.refl h
      · split
        · exact (abort_ok hF h h1 h6 ho).1
        · exact Step.refl h
    · exact wound_ok hF t 7 r h
theorem doW_ok {doF : Runr → Op3 → Runr} (hF : DoOk doF) (way : Int) : DoOk (doW way doF) := by
  intro r o h ho hnw hop
  obtain ⟨h1, h6⟩ := isOp_range hop
  unfold doW
  split
  · have hs : Step r { r with told := r.told ++ [o] } 1 := by
      refine ⟨⟨h.t1, h.t2, h.gone, h.ops, ?_, h.vict, h.wait⟩, fun _ => Nat.le_refl _, fun _ he => he, ?_⟩
      · have := h.size
        dsimp only
        rw [List.length_append]
        omega
      · unfold pot
        dsimp only
        rw [List.length_append, List.length_singleton]
        omega
    exact hs.trans (freeR_ok hF o.1 _ hs.good) (Nat.le_refl _)
  · have hsum := ask_sum r.tab (o.1, o.2.2, o.2.1)
    have hm1 : ∀ x ∈ (askT r.tab (o.1, o.2.2, o.2.1)).2.1, r.out x.1 = false ∧ 1 ≤ x.1 ∧ x.1 ≤ 6 := fun x hx => by
      rcases mem_ask.1 hx with h2 | h2
      · exact h.t1 x h2
      · rw [h2]; exact ⟨ho, h1, h6⟩
    have hm2 : ∀ x ∈ (askT r.tab (o.1, o.2.2, o.2.1)).2.2, r.out x.1 = false ∧ 1 ≤ x.1 ∧ x.1 ≤ 6 := fun x hx => by
      rcases mem_ask.2 hx with h2 | h2
      · exact h.t2 x h2
      · rw [h2]; exact ⟨ho, h1, h6⟩
    split
    · refine ⟨⟨hm1, hm2, h.gone, h.ops, ?_, h.vict, h.wait⟩, fun _ => Nat.le_refl _, fun _ he => he, ?_⟩
      · have := h.size
        dsimp only at hsum ⊢
        rw [List.length_append, List.length_singleton]
        omega
      · unfold pot
        dsimp only
        rw [List.length_append, List.length_singleton]
        omega
    · have hcw : cnt6 (setF r.waits o.1 true) = cnt6 r.waits + 1 := by
        have h2 := cnt_drop (f := setF r.waits o.1 true) h1 h6 (setF_same _ _ _)
        have h3 : setF (setF r.waits o.1 true) o.1 false = r.waits := by
          funext d
          unfold setF
          split
          · rename_i e; rw [e, hnw]
          · rfl
        rw [h3] at h2
        omega
      have hw : Good (wait0 r o) := by
        refine ⟨hm1, hm2, h.gone, h.ops, ?_, h.vict, fun d hd => ?_⟩
        · have h2 := h.size
          unfold wait0
          dsimp only at hsum ⊢
          omega
        · have hd' : setF r.waits o.1 true d = true := hd
          unfold setF at hd'
          split at hd'
          · rename_i e; rw [e]; exact ⟨h1, h6⟩
          · exact h.wait d hd'
      have hs : Step r (wait0 r o) 1 := by
        refine ⟨hw, fun _ => Nat.le_refl _, fun _ he => he, ?_⟩
        unfold pot wait0
        dsimp only
        omega
      exact hs.trans (way_ok hF way o.1 _ hw h1 h6 ho) (Nat.le_refl _)
/-- By the number of calls that may still come. -/
theorem doN_ok (way : Int) : ∀ n, DoOk (doN way n) := by
  intro n
  induction n with
  | zero => intro r o h _ _ _; exact (Step.refl h).mono (by omega)
  | succ n ih => exact doW_ok ih way
/-- Op by op. -/
theorem come_ok (way : Int) (r : Runr) (o : Op3) (h : Good r) (hop : isOpB o = true) : Good (comeR way r o) ∧ pot (comeR way r o) ≤ pot r + 1 := by
  obtain ⟨h1, h6⟩ := isOp_range hop
  unfold comeR
  split
  · exact ⟨h, by omega⟩
  · rename_i ho
    have ho' : r.out o.1 = false := by simpa using ho
    split
    · refine ⟨⟨h.t1, h.t2, fun d hd => ?_, fun d p hp => ?_, h.size, h.vict, h.wait⟩, ?_⟩
      · show setF r.behind o.1 _ d = []
        have hd' : r.out d = true := hd
        rw [setF_other _ _ (fun e => by rw [e, ho'] at hd'; cases hd')]
        exact h.gone d hd
      · have hp' : p ∈ setF r.behind o.1 (r.behind o.1 ++ [o]) d := hp
        unfold setF at hp'
        split at hp'
        · rename_i e
          subst e
          rcases List.mem_append.1 hp' with hp' | hp'
          · exact h.ops _ p hp'
          · rw [List.mem_singleton.1 hp']; exact ⟨rfl, hop⟩
        · exact h.ops d p hp'
      · have := sum_push (f := r.behind) o h1 h6
        unfold pot
        dsimp only
        omega
    · rename_i hw
      have hs := doN_ok way 41 r o h ho' (by simpa using hw) hop
      exact ⟨hs.good, hs.pots⟩
theorem strict_ok (way : Int) (l : List Op3) (hop : ∀ o ∈ l, isOpB o = true) : ∀ k, k ≤ l.length → Good (strictR way (l.take k)) ∧ pot (strictR way (l.take k)) ≤ k + 6 := by
  intro k
  induction k with
  | zero => intro _; exact ⟨good0, show pot run0 ≤ 0 + 6 by decide⟩
  | succ k ih =>
    intro hk
    have h1 := ih (by omega)
    have e : strictR way (l.take (k + 1)) = comeR way (strictR way (l.take k)) l[k] := by
      unfold strictR
      rw [List.take_succ_eq_append_getElem (by omega), List.foldl_append]
      rfl
    have h2 := come_ok way _ l[k] h1.1 (hop _ (List.getElem_mem _))
    rw [e]
    exact ⟨h2.1, by omega⟩
/-- Nobody has a lock, nobody waits. -/
structure Calm0 (r : Runr) : Prop where
  tab : r.tab = ([], [])
  waits : ∀ d, r.waits d = false
  out : ∀ d, r.out d = false
  vict : r.vict = []
theorem lock_of {t x m : Int} (h1 : 1 ≤ t ∧ t ≤ 6) (h2 : 1 ≤ x ∧ x ≤ 6) (h3 : m = 1 ∨ m = 2) : isLock (t, x, m) = true := by
  unfold isLock
  rcases h3 with rfl | rfl <;> simp [h1, h2]
theorem one_read {t a : Int} (h1 : 1 ≤ t ∧ t ≤ 6) (h2 : 1 ≤ a ∧ a ≤ 6) : askT ([], []) (t, a, 1) = ((true, 0), ([(t, a, 1)], [])) := by
  unfold askT
  rw [if_neg (by rw [lock_of h1 h2 (.inl rfl)]; decide), if_neg (by simp [waitsB]), if_neg (by simp [hasL]), if_pos (by simp [clearL])]
  rfl
theorem one_write {t a b : Int} (h1 : 1 ≤ t ∧ t ≤ 6) (h2 : 1 ≤ b ∧ b ≤ 6) : ∃ l, askT ([(t, a, 1)], []) (t, b, 2) = ((true, 0), (l, [])) ∧ ∀ x ∈ l, x.1 = t := by
  unfold askT
  rw [if_neg (by rw [lock_of h1 h2 (.inr rfl)]; decide), if_neg (by simp [waitsB]), if_neg (by simp [hasL]), if_pos (by simp [clearL, lodd])]
  refine ⟨_, rfl, fun x hx => ?_⟩
  rcases mem_holdL hx with rfl | hx
  · rfl
  · rw [List.mem_singleton.1 hx]
theorem free_all {l : List Op3} {t : Int} (h : ∀ x ∈ l, x.1 = t) : freeT (l, []) t = (([], []), []) := by
  have hw : withoutL l t = [] := by
    unfold withoutL
    rw [List.filter_eq_nil_iff]
    intro x hx
    simp [h x hx]
  unfold freeT
  rw [hw]
  rfl
theorem piece_run {way a b t : Int} {r : Runr} (hr : Calm0 r) (h1 : 1 ≤ t ∧ t ≤ 6) (h2 : 1 ≤ a ∧ a ≤ 6) (h3 : 1 ≤ b ∧ b ≤ 6) : Calm0 (comeR way (comeR way (comeR way r (t, 1, a)) (t, 2, b)) (t, 3, 0)) ∧ (comeR way (comeR way (comeR way r (t, 1, a)) (t, 2, b)) (t, 3, 0)).told = r.told ++ [(t, 1, a), (t, 2, b), (t, 3, 0)] := by
  obtain ⟨l, hl, hlt⟩ := one_write (a := a) h1 h3
  have e1 : comeR way r (t, 1, a) = { r with tab := ([(t, a, 1)], []), told := r.told ++ [(t, 1, a)] } := by
    unfold comeR
    rw [if_neg (by rw [hr.out]; decide), if_neg (by rw [hr.waits]; decide)]
    show doW way (doN way 40) r (t, 1, a) = _
    unfold doW
    rw [if_neg (show ¬ (3 : Int) ≤ 1 by decide)]
    dsimp only
    rw [hr.tab, one_read h1 h2, if_pos rfl]
  rw [e1]
  have e2 : comeR way { r with tab := ([(t, a, 1)], []), told := r.told ++ [(t, 1, a)] } (t, 2, b) = { r with tab := (l, []), told := r.told ++ [(t, 1, a)] ++ [(t, 2, b)] } := by
    unfold comeR
    dsimp only
    rw [if_neg (by rw [hr.out]; decide), if_neg (by rw [hr.waits]; decide)]
    show doW way (doN way 40) _ (t, 2, b) = _
    unfold doW
    rw [if_neg (show ¬ (3 : Int) ≤ 2 by decide)]
    dsimp only
    rw [hl, if_pos rfl]
  rw [e2]
  have e3 : comeR way { r with tab := (l, []), told := r.told ++ [(t, 1, a)] ++ [(t, 2, b)] } (t, 3, 0) = { r with tab := ([], []), told := r.told ++ [(t, 1, a)] ++ [(t, 2, b)] ++ [(t, 3, 0)] } := by
    unfold comeR
    dsimp only
    rw [if_neg (by rw [hr.out]; decide), if_neg (by rw [hr.waits]; decide)]
    show doW way (doN way 40) _ (t, 3, 0) = _
    unfold doW
    rw [if_pos (show (3 : Int) ≤ 3 by decide)]
    unfold freeR
    dsimp only
    rw [free_all hlt]
    rfl
  rw [e3]
  exact ⟨⟨rfl, hr.waits, hr.out, hr.vict⟩, by simp⟩
theorem pieces_run {way a b : Int} (h2 : 1 ≤ a ∧ a ≤ 6) (h3 : 1 ≤ b ∧ b ≤ 6) : ∀ (ps : List Int) (r : Runr), Calm0 r → (∀ x ∈ ps, 1 ≤ x ∧ x ≤ 6) → Calm0 ((ps.flatMap fun t => [((t, 1, a) : Op3), (t, 2, b), (t, 3, 0)]).foldl (comeR way) r) ∧ ((ps.flatMap fun t => [((t, 1, a) : Op3), (t, 2, b), (t, 3, 0)]).foldl (comeR way) r).told = r.told ++ ps.flatMap fun t => [(t, 1, a), (t, 2, b), (t, 3, 0)] := by
  intro ps
  induction ps with
  | nil => intro r hr _; exact ⟨hr, by simp⟩
  | cons t q ih =>
    intro r hr hps
    obtain ⟨h4, h5⟩ := piece_run (way := way) hr (hps t List.mem_cons_self) h2 h3
    obtain ⟨h6, h7⟩ := ih _ h4 fun x hx => hps x (List.mem_cons_of_mem _ hx)
    rw [List.flatMap_cons, List.foldl_append]
    refine ⟨h6, ?_⟩
    rw [show List.foldl (comeR way) r [(t, 1, a), (t, 2, b), (t, 3, 0)] = comeR way (comeR way (comeR way r (t, 1, a)) (t, 2, b)) (t, 3, 0) from rfl, h7, h5, List.append_assoc]
/-- Who comes one behind the other waits for nobody. -/
theorem strict_serial {way a b : Int} (h2 : 1 ≤ a ∧ a ≤ 6) (h3 : 1 ≤ b ∧ b ≤ 6) (ps : List Int) (hps : ∀ x ∈ ps, 1 ≤ x ∧ x ≤ 6) : (strictR way (ps.flatMap fun t => [(t, 1, a), (t, 2, b), (t, 3, 0)])).told = (ps.flatMap fun t => [(t, 1, a), (t, 2, b), (t, 3, 0)]) ∧ (strictR way (ps.flatMap fun t => [(t, 1, a), (t, 2, b), (t, 3, 0)])).vict = [] := by
  obtain ⟨h4, h5⟩ := pieces_run (way := way) h2 h3 ps run0 ⟨rfl, fun _ => rfl, fun _ => rfl, rfl⟩ hps
  exact ⟨by simpa [strictR, run0] using h5, h4.vict⟩
end Go.Proofs.YtjaeaanpbdmfgaeGreatDoor
