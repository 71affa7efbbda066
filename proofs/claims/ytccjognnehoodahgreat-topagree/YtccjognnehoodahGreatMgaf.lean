/-
  PROVED HERE: how a list of edges lies in memory, as a slice value that came in or that the program made itself.
  Conditions: none.
  PROVED HERE: a region that draws its order, whose own operations only read and whose callees may make new memory: one walk of the text's order serves every order, and what was there stays.
  Conditions: none.
  PROVED HERE: a row of bools in a block of memory, and what becomes of it when one of them is set, when memory is made, and when old memory stays.
  Conditions: none.
  PROVED HERE: graph.named gives the deals that right edges name. Old memory stays as it was.
  Conditions: none.
-/
import Derived.Test.YtccjognnehoodahGreatProg
import Derived.Test.YtccjognnehoodahGreatMgad
import Derived.WalkKit
import Derived.WalkSpells
import Derived.Handy
import Derived.Deep.QuietTactic
import Derived.BigQuiet
import Derived.WalkSmall
import Derived.Deep.RegionLaw
import Derived.Laws.AppendOwn
import Derived.Test.YtccjognnehoodahGreatMgae
namespace Go.Proofs.YtccjognnehoodahGreat
open Go.RowKit

/-- The cells of edges. -/
def flatE : List Edge2 → List Value
  | [] => []
  | o :: r => .int .i64 o.1 :: .int .i64 o.2 :: flatE r
theorem flatE_length (l : List Edge2) : (flatE l).length = l.length * 2 := by
  induction l with
  | nil => rfl
  | cons o r ih => simp [flatE, ih]; omega
theorem flatE_append (l m : List Edge2) : flatE (l ++ m) = flatE l ++ flatE m := by
  induction l with
  | nil => rfl
  | cons o r ih => simp [flatE, ih]
theorem flatE_one (l : List Edge2) : ∀ u ∈ flatE l, u.oneCell' = true := by
  induction l with
  | nil => intro u hu; cases hu
  | cons o r ih =>
    intro u hu
    simp only [flatE, List.mem_cons] at hu
    rcases hu with rfl | rfl | hu
    · rfl
    · rfl
    · exact ih u hu
theorem flatE_at (l : List Edge2) : ∀ i, i < l.length → (flatE l)[i * 2]? = some (.int .i64 (l.getD i (0, 0)).1) ∧ (flatE l)[i * 2 + 1]? = some (.int .i64 (l.getD i (0, 0)).2) := by
  induction l with
  | nil => intro i hi; cases hi
  | cons o r ih =>
    intro i hi
    cases i with
    | zero => exact ⟨rfl, rfl⟩
    | succ i =>
      have := ih i (by simpa using hi)
      rw [show (i + 1) * 2 = i * 2 + 2 by omega]
      simpa [flatE] using this
/-- The edges lie in memory from an address on, two numbers each. -/
def EdgesAt (w : World) (b off : Nat) (l : List Edge2) : Prop :=
  ∀ i, i < l.length → w.cell? ⟨b, off + i * 2, none⟩ = some (.int .i64 (l.getD i (0, 0)).1) ∧ w.cell? ⟨b, off + i * 2 + 1, none⟩ = some (.int .i64 (l.getD i (0, 0)).2)
theorem edgesAt_of {w : World} {b off : Nat} {l : List Edge2} (h : ∀ j u, (flatE l)[j]? = some u → w.cell? ⟨b, off + j, none⟩ = some u) : EdgesAt w b off l := by
  intro i hi
  obtain ⟨h0, h1⟩ := flatE_at l i hi
  exact ⟨h _ _ h0, by rw [Nat.add_assoc]; exact h _ _ h1⟩
theorem EdgesAt.flat {w : World} {b off : Nat} {l : List Edge2} (h : EdgesAt w b off l) : ∀ j u, (flatE l)[j]? = some u → w.cell? ⟨b, off + j, none⟩ = some u := by
  intro j u hj
  have hlt : j < l.length * 2 := by
    rw [← flatE_length]
    exact (List.getElem?_eq_some_iff.1 hj).1
  obtain ⟨c0, c1⟩ := h (j / 2) (by omega)
  obtain ⟨f0, f1⟩ := flatE_at l (j / 2) (by omega)
  rcases (show j = j / 2 * 2 ∨ j = j / 2 * 2 + 1 by omega) with e | e
  · rw [← e] at c0 f0; rw [f0] at hj; rw [c0, ← hj]
  · rw [Nat.add_assoc, ← e] at c1; rw [← e] at f1; rw [f1] at hj; rw [c1, ← hj]
theorem EdgesAt.below {w w1 : World} {b off B : Nat} {l : List Edge2} (h : EdgesAt w b off l) (hb : Below B w w1) (hB : b < B ∨ l = []) : EdgesAt w1 b off l := by
  intro i hi
  have hB' : b < B := by
    rcases hB with h | h
    · exact h
    · subst h; cases hi
  rw [hb.cell (p := ⟨b, off + i * 2, none⟩) hB', hb.cell (p := ⟨b, off + i * 2 + 1, none⟩) hB']
  exact h i hi

theorem infoEdge : (Tryz.prog.info? 139).map (fun i => (i.zero, i.size, i.bytes)) = some (some (.agg #[.int .i64 0, .int .i64 0]), 2, 16) := by kernel_rfl

/-- A slice value that holds a list of edges. -/
def IsEdges (w : World) (v : Value) (l : List Edge2) : Prop :=
  ∃ (ad : Option Addr) (b off cap : Nat), v = .slice ad l.length cap ∧ (0 < l.length → ad = some ⟨b, off, none⟩) ∧ (ad = none → l.length = 0 ∧ cap = 0) ∧ (b < w.heap.size ∨ l = []) ∧ EdgesAt w b off l
theorem IsEdges.below {w w1 : World} {B : Nat} {v : Value} {l : List Edge2} (h : IsEdges w v l) (hb : Below B w w1) (hB : w.heap.size ≤ B) : IsEdges w1 v l := by
  obtain ⟨ad, b, off, cap, hv, ha, hn, hbB, hops⟩ := h
  have hs := hb.size
  refine ⟨ad, b, off, cap, hv, ha, hn, ?_, hops.below hb ?_⟩
  · rcases hbB with h | h
    · exact .inl (by omega)
    · exact .inr h
  · rcases hbB with h | h
    · exact .inl (by omega)
    · exact .inr h
theorem isEdges_nil (w : World) : IsEdges w (.slice none 0 0) [] := ⟨none, 0, 0, 0, rfl, fun h => absurd h (by simp), fun _ => ⟨rfl, rfl⟩, .inr rfl, fun i hi => by simp at hi⟩
theorem isEdges_own {w : World} {base e n : Nat} {v : Value} {l : List Edge2} (h : w.ownsRow base e 2 v n (flatE l)) (hl : l.length = n) : IsEdges w v l := by
  have h' := h
  obtain ⟨_, ⟨hv, hd⟩ | ⟨g, cap, cur, hv, hb, hg, hn, hm, hsz, htk⟩⟩ := h'
  · have : l = [] := List.length_eq_zero_iff.1 (by omega)
    subst this
    rw [hv]
    exact isEdges_nil w
  · refine ⟨some ⟨g, 0, none⟩, g, 0, cap, by rw [hl]; exact hv, fun _ => rfl, fun h => (by simp at h), .inl (h.lt g (by rw [hv]; rfl)).2, edgesAt_of fun j u hj => ?_⟩
    have := h.cells (g := g) (by rw [hv]; rfl) j u hj
    rw [Addr.add_lit] at this
    exact this
/-- One edge just built lies there. -/
theorem one_edge (w : World) (t a : Int) : ∀ j u, (flatE [(t, a)])[j]? = some u → (w.alloc (.cells #[.int .i64 t, .int .i64 a] 139)).cell? ((⟨w.heap.size, 0, none⟩ : Addr).add j) = some u := by
  intro j u hj
  match j, hj with
  | 0, hj => simp [flatE] at hj; subst hj; simp [Addr.add]
  | 1, hj => simp [flatE] at hj; subst hj; simp [Addr.add]
  | k + 2, hj => simp [flatE] at hj
end Go.Proofs.YtccjognnehoodahGreat

namespace Go.Proofs.YtccjognnehoodahGreat
open Go.RowKit

/-- A world in which all that is old is as it was. -/
structure Later (B : Nat) (w : World) where
  W : World
  h : Below B w W
theorem region_later {P : Program} {id : Nat} {Q : Exit → Act → World → Prop} {a : Act} {w : World} {l : List Oper} (B : Nat) (hm : P.follows .mixedOrders = true) (hB : Region.lexB .any l.toArray = true)
    (h : wpQuiet P l.toArray (fun w' => ∃ x : Later B w, w' = x.W) (fun a' => ∀ w', (∃ x : Later B w, w' = x.W) → Q .normal a' w') l a) : (Code.region id l.toArray true).wp P Q a w :=
  wp_region_quiet (C := fun w' => ∃ x : Later B w, w' = x.W) hm hB ⟨⟨w.drew, (Below.refl B w).drew⟩, rfl⟩ (by simpa using h)
/-- What a callee's contract must say there. -/
theorem Later.call {P : Program} {f : FuncId} {args : Array Value} {B : Nat} {w : World} {v : Value} (x : Later B w)
    (h : Calls P f args x.W fun e w' => e = .returned v ∧ Below B x.W w') : Calls P f args x.W fun e w' => e = .returned v ∧ ∃ y : Later B w, w' = y.W :=
  h.mono fun _ w' ⟨he, hb⟩ => ⟨he, ⟨w', x.h.trans hb⟩, rfl⟩
theorem Later.at {P : Program} {f : FuncId} {args : Array Value} {B : Nat} {w : World} {v : Value} (x : Later B w) (hB : B ≤ w.heap.size)
    (h : Calls P f args x.W fun e w' => e = .returned v ∧ Below x.W.heap.size x.W w') : Calls P f args x.W fun e w' => e = .returned v ∧ ∃ y : Later B w, w' = y.W :=
  h.mono fun _ w' ⟨he, hb⟩ => ⟨he, ⟨w', x.h.trans (hb.mono (Nat.le_trans hB x.h.size))⟩, rfl⟩
/-- append on a row of one's own, as one step of a region that draws. -/
theorem step_append_own {P : Program} {ops : Array Oper} {o : Oper} {a : Act} {w : World} {K : Act → World → Prop} {Q : Exit → Act → World → Prop} {E : Prop}
    (hgd : o.guard = none) (s x : Operand) (t : TypeId) (ho : o.op = .call { callee := .builtin .append, args := #[s, x], argTypes := #[t, t] })
    (base : Nat) (e : TypeId) (i : TypeInfo) (z : Value) (size bytes : Nat) (ht : P.underlying t = some (.slice e)) (hi : P.info? e = some i) (hz : i.zero = some z)
    (hsize : i.size = size) (hby : i.bytes = bytes) (hzs : z.cells.size = size) (hsz : 0 < size)
    (v : Value) (n : Nat) (xs : List Value) (hs : a.eval s = v) (hown : w.ownsRow base e size v n xs)
    (ad : Addr) (m c : Nat) (news : List Value) (hx : a.eval x = .slice (some ad) m c) (hl : news.length = m * size) (hnews : ∀ j u, news[j]? = some u → w.cell? (ad.add j) = some u) (h1 : ∀ u ∈ news, u.oneCell' = true)
    (h63 : n + m ≤ maxLen) (hbytes : (n + m) * bytes ≤ 140737488355328) (hbase : base ≤ w.heap.size)
    (h : ∀ v' w', w'.ownsRow base e size v' (n + m) (xs ++ news) → w.grownBy w' v.ownBlock → (v' = .slice none 0 0 ↔ v = .slice none 0 0 ∧ m = 0) → K (a.put o.dst v') w') :
    if Region.wanted o (yielded ops a.tmps) = true then Oper.wp P o a w K Q else E := by
  have hw : Region.wanted o (yielded ops a.tmps) = true := by simp [Region.wanted, hgd]
  rw [if_pos hw]
  exact wp_append_own w s x t ho base e i z size bytes ht hi hz hsize hby hzs hsz v n xs hs hown ad m c news hx hl hnews h1 h63 hbytes hbase h
end Go.Proofs.YtccjognnehoodahGreat

namespace Go.Proofs.YtccjognnehoodahGreat
open Go.RowKit

/-- A row of bools in a block. -/
def BoolsAt (w : World) (b n : Nat) (s : Set7) : Prop := ∀ k, k < n → w.cell? ⟨b, k, none⟩ = some (.bool (s k)) ∧ w.frozen? ⟨b, k, none⟩ = false
theorem BoolsAt.congr {w : World} {b n : Nat} {s r : Set7} (h : BoolsAt w b n s) (he : ∀ k, k < n → s k = r k) : BoolsAt w b n r := fun k hk => by rw [← he k hk]; exact h k hk
theorem BoolsAt.drew {w : World} {b n : Nat} {s : Set7} (h : BoolsAt w b n s) : BoolsAt w.drew b n s := h
theorem BoolsAt.drewN {w : World} {b n m : Nat} {s : Set7} (h : BoolsAt w b n s) : BoolsAt (w.drewN m) b n s := h
theorem BoolsAt.lt {w : World} {b n : Nat} {s : Set7} (h : BoolsAt w b n s) (hn : 0 < n) : b < w.heap.size := by
  have := World.block_lt_of_cell? w _ (h 0 hn).1
  simpa using this
theorem BoolsAt.below {w w1 : World} {b n B : Nat} {s : Set7} (h : BoolsAt w b n s) (hb : Below B w w1) (hB : b < B) : BoolsAt w1 b n s := fun k hk => by
  rw [hb.cell (p := ⟨b, k, none⟩) hB, hb.frozen (p := ⟨b, k, none⟩) hB]; exact h k hk
theorem BoolsAt.alloc {w : World} {b n : Nat} {s : Set7} (h : BoolsAt w b n s) (o : Obj) : BoolsAt (w.alloc o) b n s := fun k hk => by
  have hlt : b < w.heap.size := by have := World.block_lt_of_cell? w _ (h k hk).1; simpa using this
  rw [World.cell?_alloc_lt _ _ _ hlt, World.frozen?_alloc_old _ _ _ (Nat.ne_of_lt hlt)]; exact h k hk
theorem BoolsAt.set {w : World} {b n t : Nat} {s : Set7} (h : BoolsAt w b n s) (x : Bool) (ht : t < n) : BoolsAt (w.setCell ⟨b, t, none⟩ (.bool x)) b n (setS s t x) := fun k hk => by
  rw [World.frozen?_setCell]
  refine ⟨?_, (h k hk).2⟩
  unfold setS
  by_cases e : k = t
  · subst e; rw [if_pos rfl]; exact World.cell?_setCell_same _ _ _ (h k hk).1
  · rw [if_neg e, World.cell?_setCell_other _ _ _ _ (by simp <;> omega)]; exact (h k hk).1
theorem BoolsAt.far {w : World} {b n : Nat} {s : Set7} (h : BoolsAt w b n s) {p : Addr} (v : Value) (hp : p.block ≠ b) : BoolsAt (w.setCell p v) b n s := fun k hk => by
  rw [World.frozen?_setCell, World.cell?_setCell_other _ _ _ _ (by intro e; exact hp (congrArg Addr.block e))]; exact h k hk
theorem BoolsAt.grown {w w1 : World} {b n : Nat} {s : Set7} {row : Option Nat} (h : BoolsAt w b n s) (hg : w.grownBy w1 row) (hlt : b < w.heap.size) (hne : row ≠ some b) : BoolsAt w1 b n s := fun k hk => by
  have hb := hg.block b hlt (Ne.symm hne)
  rw [World.cell?_of_block (w := w) (a := ⟨b, k, none⟩) hb, World.frozen?_of_block (w := w) (a := ⟨b, k, none⟩) hb]; exact h k hk
theorem bools7_new (w : World) (s : Set7) (T : TypeId) : BoolsAt (w.alloc (.cells #[.bool (s 0), .bool (s 1), .bool (s 2), .bool (s 3), .bool (s 4), .bool (s 5), .bool (s 6)] T)) w.heap.size 7 s := fun k hk => by
  rw [World.cell?_alloc_new, World.frozen?_alloc_new]
  refine ⟨?_, rfl⟩
  rcases (show k = 0 ∨ k = 1 ∨ k = 2 ∨ k = 3 ∨ k = 4 ∨ k = 5 ∨ k = 6 by omega) with h | h | h | h | h | h | h <;> subst h <;> rfl
end Go.Proofs.YtccjognnehoodahGreat

namespace Go.Proofs.YtccjognnehoodahGreat
open Go.RowKit

theorem cast_beq (t j : Nat) : ((t : Int) == (j : Int)) = decide (j = t) := by
  rw [Bool.eq_iff_iff]
  simp
  omega
theorem set_named (s : Set7) (t a j : Nat) : setS (setS s t true) a true j = (s j || ((t : Int) == (j : Int) || (a : Int) == (j : Int))) := by
  rw [cast_beq, cast_beq]
  unfold setS
  by_cases h1 : j = a
  · simp [h1]
  · by_cases h2 : j = t <;> simp [h1, h2]

set_option maxHeartbeats 4000000 in
theorem named_any (l : List Edge2) (v : Value) (w : World) (hI : IsEdges w v l) (hd : ∀ e ∈ l, (1 ≤ e.1 ∧ e.1 ≤ 6) ∧ (1 ≤ e.2 ∧ e.2 ≤ 6)) (hl : l.length ≤ 60) :
    Calls Tryz.prog 90 #[v] w fun e w' => e = .returned (.agg #[.bool (namedS l 0), .bool (namedS l 1), .bool (namedS l 2), .bool (namedS l 3), .bool (namedS l 4), .bool (namedS l 5), .bool (namedS l 6)]) ∧ Below w.heap.size w w' := by
  obtain ⟨ad, b, off, cap, rfl, ha, -, hbB, hops⟩ := hI
  have HO : Hid (∀ W, Below w.heap.size w W → ∀ k, k < l.length → ad = some ⟨b, off, none⟩ ∧ W.cell? ⟨b, off + k * 2, none⟩ = some (.int .i64 (l.getD k (0, 0)).1) ∧ W.cell? ⟨b, off + k * 2 + 1, none⟩ = some (.int .i64 (l.getD k (0, 0)).2)) := fun W hW k hk => ⟨ha (by omega), (hops.below hW hbB) k hk⟩
  have HD : Hid (∀ e ∈ l, (1 ≤ e.1 ∧ e.1 ≤ 6) ∧ (1 ≤ e.2 ∧ e.2 ≤ 6)) := hd
  clear ha hbB hops hd
  go_enter Tryz.func90, Tryz.ntmps90
  go_wp2
  go_loopw [8] (fun v8 wr => ∃ k : Nat, k ≤ l.length ∧ v8 = .int .i64 k ∧ Below w.heap.size w wr ∧ BoolsAt wr w.heap.size 7 (fun _ => false) ∧ BoolsAt wr (w.heap.size + 1) 7 (namedS (l.take k))) (fun v8 _ => l.length - (intOf v8).toNat)
  case atStart =>
    refine ⟨0, Nat.zero_le _, rfl, ((Below.refl _ w).alloc (Nat.le_refl _) _).alloc (by simp) _, (bools7_new w (fun _ => false) _).alloc _, ?_⟩
    have := bools7_new (w.alloc (Obj.cells #[Value.bool false, Value.bool false, Value.bool false, Value.bool false, Value.bool false, Value.bool false, Value.bool false] 143)) (fun _ => false) 143
    rw [List.take_zero]
    exact (by simpa using this : BoolsAt _ (w.heap.size + 1) 7 (fun _ => false))
  case round =>
    obtain ⟨k, hk, rfl, hbel, hz, hs⟩ := hrel
    have hB1 := hs.lt (by omega)
    have HZ : Hid (BoolsAt wr w.heap.size 7 (fun _ => false)) := hz
    have HS : Hid (BoolsAt wr (w.heap.size + 1) 7 (namedS (l.take k))) := hs
    clear hz hs
    by_cases hlt : k < l.length
    · obtain ⟨rfl, c0, c1⟩ := HO.out wr hbel k hlt
      obtain ⟨⟨t, a⟩, ho⟩ : ∃ o : Edge2, l.getD k (0, 0) = o := ⟨_, rfl⟩
      rw [ho] at c0 c1
      have hmem : (t, a) ∈ l := by rw [← ho]; simp [List.getD, List.getElem?_eq_getElem hlt]
      have hta := HD.out _ hmem
      simp only at hta c0 c1
      obtain ⟨t, rfl⟩ : ∃ n : Nat, t = n := ⟨t.toNat, by omega⟩
      obtain ⟨a, rfl⟩ : ∃ n : Nat, a = n := ⟨a.toNat, by omega⟩
      have HT : Hid (l.take (k + 1) = l.take k ++ [((t : Int), (a : Int))]) := by
        show l.take (k + 1) = l.take k ++ [((t : Int), (a : Int))]
        rw [List.take_succ_eq_append_getElem hlt, ← ho]; simp [List.getD, List.getElem?_eq_getElem hlt]
      have ht1 : 1 ≤ t := by omega
      have ht6 : t ≤ 6 := by omega
      have ha1 : 1 ≤ a := by omega
      have ha6 : a ≤ 6 := by omega
      clear ho hmem hta
      obtain ⟨f0, z0⟩ := HS.out t (by omega)
      obtain ⟨f1, z1⟩ := HS.out a (by omega)
      have hsz := hbel.size
      have ht7 : (t : Int) < 7 := by omega
      have ha7 : (a : Int) < 7 := by omega
      have hB0 : w.heap.size < wr.heap.size := by omega
      by_cases hta : t = a
      · have HEQ : Hid (t = a) := hta
        subst hta
        go_wp2
        go_region
        all_goals
          go_wp2
          go_roundw
          case rel =>
            refine ⟨k + 1, by omega, by go_num, (((hbel.setCell (by simp) _).setCell (by simp) _).alloc (by simpa using hsz) _).drew, (((HZ.out.far _ (by simp)).far _ (by simp)).alloc _).drew, ((((HS.out.set true (by omega)).set true (by omega)).alloc _).drew).congr ?_⟩
            intro j _
            rw [HT.out, namedS_snoc, set_named]
          case measure => simp [intOf]; omega
      · have hat : ¬ a = t := fun e => hta e.symm
        go_wp2
        go_region
        all_goals
          go_wp2
          go_roundw
          case rel =>
            refine ⟨k + 1, by omega, by go_num, (((hbel.setCell (by simp) _).setCell (by simp) _).alloc (by simpa using hsz) _).drew, (((HZ.out.far _ (by simp)).far _ (by simp)).alloc _).drew, ((((HS.out.set true (by omega)).set true (by omega)).alloc _).drew).congr ?_⟩
            intro j _
            rw [HT.out, namedS_snoc, set_named]
          case measure => simp [intOf]; omega
    · have HE : Hid (namedS (l.take k) = namedS l) := by show namedS (l.take k) = namedS l; rw [List.take_of_length_le (by omega)]
      have f0 := (HS.out 0 (by omega)).1
      have f1 := (HS.out 1 (by omega)).1
      have f2 := (HS.out 2 (by omega)).1
      have f3 := (HS.out 3 (by omega)).1
      have f4 := (HS.out 4 (by omega)).1
      have f5 := (HS.out 5 (by omega)).1
      have f6 := (HS.out 6 (by omega)).1
      have hz : ∀ k, k < 7 → wr.cell? ⟨w.heap.size, k, none⟩ = some (.bool false) := fun k hk => (HZ.out k hk).1
      have hy : ∀ k, k < 7 → wr.frozen? ⟨w.heap.size, k, none⟩ = false := fun k hk => (HZ.out k hk).2
      rw [HE.out] at f0 f1 f2 f3 f4 f5 f6
      clear HZ HS
      go_wp2
      refine bodyPost_ret (v := .agg #[.bool (namedS l 0), .bool (namedS l 1), .bool (namedS l 2), .bool (namedS l 3), .bool (namedS l 4), .bool (namedS l 5), .bool (namedS l 6)]) (by simp [results, Tryz.results90, go_sem, hz]) rfl ⟨rfl, ?_⟩
      exact ((((((hbel.setCell (Nat.le_refl _) _).setCell (Nat.le_refl _) _).setCell (Nat.le_refl _) _).setCell (Nat.le_refl _) _).setCell (Nat.le_refl _) _).setCell (Nat.le_refl _) _).setCell (Nat.le_refl _) _
end Go.Proofs.YtccjognnehoodahGreat
