/-
  PROVED HERE: plain facts, with no word of the program: two deals that write two items crosswise, and a third one that writes both behind them: such a list is right, all of it is done, by odds it goes around, and by view it has the order 1, 2, 3.
  Conditions: none.
  PROVED HERE: a region that draws its order, whose own operations only read and whose callees may make new memory: one walk of the text's order serves every order, and what was there stays.
  Conditions: none.
-/
import Derived.Test.YtjaeaanpbdmfgacDoorOrdPlain
import Derived.Test.YtjaeaanpbdmfgacDoorViewPlain
import Derived.Test.YtjaeaanpbdmfgacDoorAlongPlain
import Derived.WalkKit
import Derived.WalkSpells
import Derived.Handy
import Derived.Deep.QuietTactic
import Derived.BigQuiet
import Derived.WalkSmall
import Derived.Deep.RegionLaw
import Derived.Laws.AppendOwn
namespace Go.Proofs.YtjaeaanpbdmfgacDoor

def blind6 (a b : Int) : List Op3 := [(1, 2, a), (2, 2, a), (2, 2, b), (1, 2, b), (3, 2, a), (3, 2, b)]
def blind3 : List Op3 := [(1, 3, 0), (2, 3, 0), (3, 3, 0)]
def blindL (a b : Int) : List Op3 := blind6 a b ++ blind3
def blindB (a b : Int) : Bool := (chk (blindL a b)).2 == 0 && doneL (blindL a b) == blindL a b && serOrd (blindL a b) == none && (tryO (dealsL (blindL a b)) (fun o => sightB (blindL a b) (alongL (blindL a b) o)) (dealsL (blindL a b)).length [] == some [1, 2, 3])
theorem blind_all : ((List.range 6).all fun i => (List.range 6).all fun j => i == j || blindB ((i : Int) + 1) ((j : Int) + 1)) = true := by decide +kernel
theorem blind_plain {a b : Int} (ha : 1 ≤ a ∧ a ≤ 6) (hb : 1 ≤ b ∧ b ≤ 6) (hne : a ≠ b) : (chk (blindL a b)).2 = 0 ∧ doneL (blindL a b) = blindL a b ∧ serOrd (blindL a b) = none ∧ tryO (dealsL (blindL a b)) (fun o => sightB (blindL a b) (alongL (blindL a b) o)) (dealsL (blindL a b)).length [] = some [1, 2, 3] := by
  have h := List.all_eq_true.1 (List.all_eq_true.1 blind_all (a.toNat - 1) (List.mem_range.2 (by omega))) (b.toNat - 1) (List.mem_range.2 (by omega))
  rw [show ((a.toNat - 1 : Nat) : Int) + 1 = a by omega, show ((b.toNat - 1 : Nat) : Int) + 1 = b by omega] at h
  rcases Bool.or_eq_true_iff.1 h with h | h
  · have : a.toNat - 1 = b.toNat - 1 := by simpa using h
    omega
  · simp only [blindB, Bool.and_eq_true, beq_iff_eq] at h
    exact ⟨h.1.1.1, h.1.1.2, h.1.2, h.2⟩
end Go.Proofs.YtjaeaanpbdmfgacDoor

namespace Go.Proofs.YtjaeaanpbdmfgacDoor
open Go.RowKit

/-- A world in which all that is old is as it was. -/
structure Later (B : Nat) (w : World) where
  W : World
  h : Below B w W
theorem region_later {P : Program} {id : Nat} {Q : Exit → Act → World → Prop} {a : Act} {w : World} {l : List Oper} (B : Nat) (hm : P.follows .mixedOrders = true) (hB : Region.lexB .any l.toArray = true)
    (h : wpQuiet P l.toArray (fun w' => ∃ x : Later B w, w' = x.W) (fun a' => ∀ w', (∃ x : Later B w, w' = x.W) → Q .normal a' w') l a) : (Code.region id l.toArray true).wp P Q a w :=
  wp_region_quiet (C := fun w' => ∃ x : Later B w, w' = x.W) hm hB ⟨⟨w.drew, (Below.refl B w).drew⟩, rfl⟩ (by simpa using h)
/-- What a callee's contract must say there. -/
theorem Later.call {P : Program} {f : FuncId} {args : Array Value} {B : Nat} {w : World} {v : Value} (x : Later B w)
    (h : Calls P f args x.W fun e w' => e = .returned v ∧ Below B x.W w') : Calls P f args x.W fun e w' => e = .returned v ∧ ∃ y : Later B w, w' = y.W :=
  h.mono fun _ w' ⟨he, hb⟩ => ⟨he, ⟨w', x.h.trans hb⟩, rfl⟩
theorem Later.at {P : Program} {f : FuncId} {args : Array Value} {B : Nat} {w : World} {v : Value} (x : Later B w) (hB : B ≤ w.heap.size)
    (h : Calls P f args x.W fun e w' => e = .returned v ∧ Below x.W.heap.size x.W w') : Calls P f args x.W fun e w' => e = .returned v ∧ ∃ y : Later B w, w' = y.W :=
  h.mono fun _ w' ⟨he, hb⟩ => ⟨he, ⟨w', x.h.trans (hb.mono (Nat.le_trans hB x.h.size))⟩, rfl⟩
/-- append on a row of one's own, as one step of a region that draws. -/
theorem step_append_own {P : Program} {ops : Array Oper} {o : Oper} {a : Act} {w : World} {K : Act → World → Prop} {Q : Exit → Act → World → Prop} {E : Prop}
    (hgd : o.guard = none) (s x : Operand) (t : TypeId) (ho : o.op = .call { callee := .builtin .append, args := #[s, x], argTypes := #[t, t] })
    (base : Nat) (e : TypeId) (i : TypeInfo) (z : Value) (size bytes : Nat) (ht : P.underlying t = some (.slice e)) (hi : P.info? e = some i) (hz : i.zero = some z)
    (hsize : i.size = size) (hby : i.bytes = bytes) (hzs : z.cells.size = size) (hsz : 0 < size)
    (v : Value) (n : Nat) (xs : List Value) (hs : a.eval s = v) (hown : w.ownsRow base e size v n xs)
    (ad : Addr) (m c : Nat) (news : List Value) (hx : a.eval x = .slice (some ad) m c) (hl : news.length = m * size) (hnews : ∀ j u, news[j]? = some u → w.cell? (ad.add j) = some u) (h1 : ∀ u ∈ news, u.oneCell' = true)
    (h63 : n + m ≤ maxLen) (hbytes : (n + m) * bytes ≤ 140737488355328) (hbase : base ≤ w.heap.size)
    (h : ∀ v' w', w'.ownsRow base e size v' (n + m) (xs ++ news) → w.grownBy w' v.ownBlock → (v' = .slice none 0 0 ↔ v = .slice none 0 0 ∧ m = 0) → K (a.put o.dst v') w') :
    if Region.wanted o (yielded ops a.tmps) = true then Oper.wp P o a w K Q else E := by
  have hw : Region.wanted o (yielded ops a.tmps) = true := by simp [Region.wanted, hgd]
  rw [if_pos hw]
  exact wp_append_own w s x t ho base e i z size bytes ht hi hz hsize hby hzs hsz v n xs hs hown ad m c news hx hl hnews h1 h63 hbytes hbase h
end Go.Proofs.YtjaeaanpbdmfgacDoor
