/-
  PROVED HERE: a region that draws its order, whose own operations only read and whose callees may make new memory: one walk of the text's order serves every order, and what was there stays.
  Conditions: none.
  (Of these, what the claim wants: the rest was left out.)
  PROVED HERE: a row of bools in a block of memory, and what becomes of it when one of them is set, when memory is made, and when old memory stays.
  Conditions: none.
  (Of these, what the claim wants: the rest was left out.)
-/
import Derived.WalkKit
import Derived.WalkSpells
import Derived.Handy
import Derived.Deep.QuietTactic
import Derived.BigQuiet
import Derived.WalkSmall
import Derived.Deep.RegionLaw
import Derived.Laws.AppendOwn
import Derived.Test.YtmjjiehnjghndaaGreatMgam
import Derived.Test.YtmjjiehnjghndaaGreatMgac
namespace Go.Proofs.YtmjjiehnjghndaaGreat
open Go.RowKit

/-- A world in which all that is old is as it was. -/
structure Later (B : Nat) (w : World) where
  W : World
  h : Below B w W
/-- What a callee's contract must say there. -/
theorem Later.call {P : Program} {f : FuncId} {args : Array Value} {B : Nat} {w : World} {v : Value} (x : Later B w)
    (h : Calls P f args x.W fun e w' => e = .returned v ∧ Below B x.W w') : Calls P f args x.W fun e w' => e = .returned v ∧ ∃ y : Later B w, w' = y.W :=
  h.mono fun _ w' ⟨he, hb⟩ => ⟨he, ⟨w', x.h.trans hb⟩, rfl⟩
theorem Later.at {P : Program} {f : FuncId} {args : Array Value} {B : Nat} {w : World} {v : Value} (x : Later B w) (hB : B ≤ w.heap.size)
    (h : Calls P f args x.W fun e w' => e = .returned v ∧ Below x.W.heap.size x.W w') : Calls P f args x.W fun e w' => e = .returned v ∧ ∃ y : Later B w, w' = y.W :=
  h.mono fun _ w' ⟨he, hb⟩ => ⟨he, ⟨w', x.h.trans (hb.mono (Nat.le_trans hB x.h.size))⟩, rfl⟩
/-- append on a row of one's own, as one step of a region that draws. -/
theorem step_append_own {P : Program} {ops : Array Oper} {o : Oper} {a : Act} {w : World} {K : Act → World → Prop} {Q : Exit → Act → World → Prop} {E : Prop}
    (hgd : o.guard = none) (s x : Operand) (t : TypeId) (ho : o.op = .call { callee := .builtin .append, args := #[s, x], argTypes := #[t, t] })
    (base : Nat) (e : TypeId) (i : TypeInfo) (z : Value) (size bytes : Nat) (ht : P.underlying t = some (.slice e)) (hi : P.info? e = some i) (hz : i.zero = some z)
    (hsize : i.size = size) (hby : i.bytes = bytes) (hzs : z.cells.size = size) (hsz : 0 < size)
    (v : Value) (n : Nat) (xs : List Value) (hs : a.eval s = v) (hown : w.ownsRow base e size v n xs)
    (ad : Addr) (m c : Nat) (news : List Value) (hx : a.eval x = .slice (some ad) m c) (hl : news.length = m * size) (hnews : ∀ j u, news[j]? = some u → w.cell? (ad.add j) = some u) (h1 : ∀ u ∈ news, u.oneCell' = true)
    (h63 : n + m ≤ maxLen) (hbytes : (n + m) * bytes ≤ 140737488355328) (hbase : base ≤ w.heap.size)
    (h : ∀ v' w', w'.ownsRow base e size v' (n + m) (xs ++ news) → w.grownBy w' v.ownBlock → (v' = .slice none 0 0 ↔ v = .slice none 0 0 ∧ m = 0) → K (a.put o.dst v') w') :
    if Region.wanted o (yielded ops a.tmps) = true then Oper.wp P o a w K Q else E := by
  have hw : Region.wanted o (yielded ops a.tmps) = true := by simp [Region.wanted, hgd]
  rw [if_pos hw]
  exact wp_append_own w s x t ho base e i z size bytes ht hi hz hsize hby hzs hsz v n xs hs hown ad m c news hx hl hnews h1 h63 hbytes hbase h
end Go.Proofs.YtmjjiehnjghndaaGreat

namespace Go.Proofs.YtmjjiehnjghndaaGreat
open Go.RowKit

/-- A row of bools in a block. -/
def BoolsAt (w : World) (b n : Nat) (s : Set7) : Prop := ∀ k, k < n → w.cell? ⟨b, k, none⟩ = some (.bool (s k)) ∧ w.frozen? ⟨b, k, none⟩ = false
theorem BoolsAt.congr {w : World} {b n : Nat} {s r : Set7} (h : BoolsAt w b n s) (he : ∀ k, k < n → s k = r k) : BoolsAt w b n r := fun k hk => by rw [← he k hk]; exact h k hk
theorem BoolsAt.drew {w : World} {b n : Nat} {s : Set7} (h : BoolsAt w b n s) : BoolsAt w.drew b n s := h
theorem BoolsAt.lt {w : World} {b n : Nat} {s : Set7} (h : BoolsAt w b n s) (hn : 0 < n) : b < w.heap.size := by
  have := World.block_lt_of_cell? w _ (h 0 hn).1
  simpa using this
theorem BoolsAt.below {w w1 : World} {b n B : Nat} {s : Set7} (h : BoolsAt w b n s) (hb : Below B w w1) (hB : b < B) : BoolsAt w1 b n s := fun k hk => by
  rw [hb.cell (p := ⟨b, k, none⟩) hB, hb.frozen (p := ⟨b, k, none⟩) hB]; exact h k hk
theorem BoolsAt.alloc {w : World} {b n : Nat} {s : Set7} (h : BoolsAt w b n s) (o : Obj) : BoolsAt (w.alloc o) b n s := fun k hk => by
  have hlt : b < w.heap.size := by have := World.block_lt_of_cell? w _ (h k hk).1; simpa using this
  rw [World.cell?_alloc_lt _ _ _ hlt, World.frozen?_alloc_old _ _ _ (Nat.ne_of_lt hlt)]; exact h k hk
theorem BoolsAt.set {w : World} {b n t : Nat} {s : Set7} (h : BoolsAt w b n s) (x : Bool) (ht : t < n) : BoolsAt (w.setCell ⟨b, t, none⟩ (.bool x)) b n (setS s t x) := fun k hk => by
  rw [World.frozen?_setCell]
  refine ⟨?_, (h k hk).2⟩
  unfold setS
  by_cases e : k = t
  · subst e; rw [if_pos rfl]; exact World.cell?_setCell_same _ _ _ (h k hk).1
  · rw [if_neg e, World.cell?_setCell_other _ _ _ _ (by simp <;> omega)]; exact (h k hk).1
theorem BoolsAt.far {w : World} {b n : Nat} {s : Set7} (h : BoolsAt w b n s) {p : Addr} (v : Value) (hp : p.block ≠ b) : BoolsAt (w.setCell p v) b n s := fun k hk => by
  rw [World.frozen?_setCell, World.cell?_setCell_other _ _ _ _ (by intro e; exact hp (congrArg Addr.block e))]; exact h k hk
theorem BoolsAt.grown {w w1 : World} {b n : Nat} {s : Set7} {row : Option Nat} (h : BoolsAt w b n s) (hg : w.grownBy w1 row) (hlt : b < w.heap.size) (hne : row ≠ some b) : BoolsAt w1 b n s := fun k hk => by
  have hb := hg.block b hlt (Ne.symm hne)
  rw [World.cell?_of_block (w := w) (a := ⟨b, k, none⟩) hb, World.frozen?_of_block (w := w) (a := ⟨b, k, none⟩) hb]; exact h k hk
theorem bools7_new (w : World) (s : Set7) (T : TypeId) : BoolsAt (w.alloc (.cells #[.bool (s 0), .bool (s 1), .bool (s 2), .bool (s 3), .bool (s 4), .bool (s 5), .bool (s 6)] T)) w.heap.size 7 s := fun k hk => by
  rw [World.cell?_alloc_new, World.frozen?_alloc_new]
  refine ⟨?_, rfl⟩
  rcases (show k = 0 ∨ k = 1 ∨ k = 2 ∨ k = 3 ∨ k = 4 ∨ k = 5 ∨ k = 6 by omega) with h | h | h | h | h | h | h <;> subst h <;> rfl
end Go.Proofs.YtmjjiehnjghndaaGreat
