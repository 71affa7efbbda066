/-
  PROVED HERE: a square of bools (from which deal to which) in a block of memory, and what becomes of it when one of them is set, when memory is made, and when old memory stays.
  Conditions: none.
  PROVED HERE: graph.stepsOf tells of right edges from which deal one leads to which. Old memory stays as it was.
  Conditions: none.
  PROVED HERE: of the blocks below a base only one has turned (Past); a closure laid into a block of its own.
  Conditions: none.
  PROVED HERE: graph.ringOf, with its closure that calls itself, gives the first ring by numbers of so many; graph.Ring the first of the fewest, ErrNone where there is none, and of wrong edges Check's error. Old memory stays as it was.
  Conditions: none.
  PROVED HERE: graph.ringOf gives the first ring by numbers of so many, or none; graph.Ring the first of the fewest, ErrNone where there is none, and of wrong edges Check's error. Old memory stays as it was.
  Conditions: none.
-/
import Derived.Test.YtgnbejemhdcemacGraphNamed
import Derived.Laws.Rows
import Derived.Laws.CopyOwn
import Derived.Test.YtgnbejemhdcemacGraphOrder
import Derived.Test.YtgnbejemhdcemacGraphWay
import Derived.Test.YtgnbejemhdcemacGraphRing
namespace Go.Proofs.Ytgnbejemhdcemac
open Go.RowKit

/-- Two numbers as one. -/
def flatS (s : Step7) : Set7 := fun k => s (k / 7) (k % 7)
def cells49 (s : Step7) : Array Value := ((List.range 49).map fun k => Value.bool (flatS s k)).toArray
theorem cells49_size (s : Step7) : (cells49 s).size = 49 := by simp [cells49]
theorem cells49_at (s : Step7) (k : Nat) (h : k < 49) : (cells49 s)[k]? = some (.bool (flatS s k)) := by simp [cells49, h]
theorem cells49_one (s : Step7) : (cells49 s).all (·.oneCell') = true := by
  rw [Array.all_eq_true_iff_forall_mem]
  intro v hv
  simp only [cells49, List.mem_toArray, List.mem_map] at hv
  obtain ⟨k, _, rfl⟩ := hv
  rfl
theorem flat_two (i k : Nat) (hk : k < 7) (s : Step7) : flatS s (i * 7 + k) = s i k := by
  unfold flatS
  rw [show (i * 7 + k) / 7 = i by omega, show (i * 7 + k) % 7 = k by omega]
def setM (s : Step7) (t a : Nat) : Step7 := fun i k => if i = t ∧ k = a then true else s i k
theorem cells49_set (s : Step7) (t a : Nat) (ha : a < 7) : (cells49 s).setIfInBounds (t * 7 + a) (.bool true) = cells49 (setM s t a) := by
  refine Array.ext_getElem? fun j => ?_
  rw [Array.getElem?_setIfInBounds, cells49_size]
  by_cases hj : j < 49
  · rw [cells49_at _ j hj, cells49_at _ j hj]
    unfold flatS setM
    by_cases e : t * 7 + a = j
    · rw [if_pos e, if_pos (by omega), if_pos (by omega)]
    · rw [if_neg e, if_neg (by omega)]
  · have h1 : ∀ r, (cells49 r)[j]? = none := fun r => Array.getElem?_eq_none (by rw [cells49_size]; omega)
    rw [h1, h1]
    by_cases e : t * 7 + a = j
    · rw [if_pos e, if_neg (by omega)]
    · rw [if_neg e]
def MatAt (w : World) (b : Nat) (s : Step7) : Prop := w.heap[b]? = some (.cells (cells49 s) 94 (0, 0))
theorem MatAt.lt {w : World} {b : Nat} {s : Step7} (h : MatAt w b s) : b < w.heap.size := by
  have h' : w.heap[b]? = some _ := h
  exact (Array.getElem?_eq_some_iff.1 h').1
theorem MatAt.cell {w : World} {b : Nat} {s : Step7} (h : MatAt w b s) {i k : Nat} (hi : i < 7) (hk : k < 7) : w.cell? ⟨b, i * 7 + k, none⟩ = some (.bool (s i k)) := by
  rw [cell_of_row w b _ _ _ _ h, cells49_at s _ (by omega), flat_two i k hk]
theorem MatAt.thaw {w : World} {b : Nat} {s : Step7} (h : MatAt w b s) (k : Nat) : w.frozen? ⟨b, k, none⟩ = false := by
  have h' : w.heap[b]? = some _ := h
  simp [World.frozen?, h']
theorem MatAt.drew {w : World} {b : Nat} {s : Step7} (h : MatAt w b s) : MatAt w.drew b s := h
theorem MatAt.below {w w1 : World} {b B : Nat} {s : Step7} (h : MatAt w b s) (hb : Below B w w1) (hB : b < B) : MatAt w1 b s := (hb.block b hB).trans h
theorem MatAt.alloc {w : World} {b : Nat} {s : Step7} (h : MatAt w b s) (o : Obj) : MatAt (w.alloc o) b s := (Below.heap_alloc w o b h.lt).trans h
theorem MatAt.far {w : World} {b : Nat} {s : Step7} (h : MatAt w b s) {p : Addr} (v : Value) (hp : b ≠ p.block) : MatAt (w.setCell p v) b s := (Below.heap_setCell w p v b hp).trans h
theorem MatAt.set {w : World} {b t a : Nat} {s : Step7} (h : MatAt w b s) (ha : a < 7) : MatAt (w.setCell ⟨b, t * 7 + a, none⟩ (.bool true)) b (setM s t a) := by
  have h' : w.heap[b]? = some (.cells (cells49 s) 94 (0, 0)) := h
  unfold MatAt World.setCell
  rw [Array.getElem?_modify]
  simp [h', cells49_set s t a ha]
theorem MatAt.congr {w : World} {b : Nat} {s r : Step7} (h : MatAt w b s) (he : s = r) : MatAt w b r := he ▸ h
theorem mat_box (w : World) (s : Step7) : MatAt (w.alloc (.cells (cells49 s) 94)) w.heap.size s := by
  unfold MatAt World.alloc
  simp
theorem mat_fresh (w : World) (c : Array Value) (h : cells49 (fun _ _ => false) = c) : MatAt (w.alloc (.cells c 94)) w.heap.size (fun _ _ => false) := h ▸ mat_box w _
theorem mat_fresh2 (w : World) (o : Obj) (c : Array Value) (h : cells49 (fun _ _ => false) = c) : MatAt ((w.alloc o).alloc (.cells c 94)) (w.heap.size + 1) (fun _ _ => false) := by
  have := mat_fresh (w.alloc o) c h
  simpa using this
theorem mat_info : (Try.prog.info? 94).map (·.size) = some 49 := by kernel_rfl
theorem mat_info' (s : Step7) : (Try.prog.info? 94).map (·.size) = some (cells49 s).size := by rw [cells49_size]; exact mat_info
end Go.Proofs.Ytgnbejemhdcemac

namespace Go.Proofs.Ytgnbejemhdcemac
open Go.RowKit

theorem set_steps (l : List Edge2) (t a : Nat) : setM (stepsS l) t a = stepsS (l ++ [((t : Int), (a : Int))]) := by
  funext i k
  rw [stepsS_snoc, cast_beq, cast_beq]
  unfold setM
  by_cases h : i = t ∧ k = a
  · rw [if_pos h, h.1, h.2]; simp
  · rw [if_neg h]
    by_cases h1 : i = t
    · by_cases h2 : k = a
      · exact absurd ⟨h1, h2⟩ h
      · simp [h2]
    · simp [h1]

set_option maxHeartbeats 4000000 in
theorem stepsOf_any (l : List Edge2) (v : Value) (w : World) (hI : IsEdges w v l) (hd : ∀ e ∈ l, (1 ≤ e.1 ∧ e.1 ≤ 6) ∧ (1 ≤ e.2 ∧ e.2 ≤ 6)) (hl : l.length ≤ 60) :
    Calls Try.prog 53 #[v] w fun e w' => e = .returned (.agg (cells49 (stepsS l))) ∧ Below w.heap.size w w' := by
  obtain ⟨ad, b, off, cap, rfl, ha, -, hbB, hops⟩ := hI
  have HO : Hid (∀ W, Below w.heap.size w W → ∀ k, k < l.length → ad = some ⟨b, off, none⟩ ∧ W.cell? ⟨b, off + k * 2, none⟩ = some (.int .i64 (l.getD k (0, 0)).1) ∧ W.cell? ⟨b, off + k * 2 + 1, none⟩ = some (.int .i64 (l.getD k (0, 0)).2)) := fun W hW k hk => ⟨ha (by omega), (hops.below hW hbB) k hk⟩
  have HD : Hid (∀ e ∈ l, (1 ≤ e.1 ∧ e.1 ≤ 6) ∧ (1 ≤ e.2 ∧ e.2 ≤ 6)) := hd
  clear ha hbB hops hd
  go_enter Try.func53, Try.ntmps53
  go_wp2
  go_loopw [8] (fun v8 wr => ∃ k : Nat, k ≤ l.length ∧ v8 = .int .i64 k ∧ Below w.heap.size w wr ∧ MatAt wr w.heap.size (fun _ _ => false) ∧ MatAt wr (w.heap.size + 1) (stepsS (l.take k))) (fun v8 _ => l.length - (intOf v8).toNat)
  case atStart =>
    refine ⟨0, Nat.zero_le _, rfl, ((Below.refl _ w).alloc (Nat.le_refl _) _).alloc (by simp) _, (mat_fresh w _ rfl).alloc _, (mat_fresh2 w _ _ rfl).congr rfl⟩
  case round =>
    obtain ⟨k, hk, rfl, hbel, hz, hs⟩ := hrel
    have hB1 := hs.lt
    have HZ : Hid (MatAt wr w.heap.size (fun _ _ => false)) := hz
    have HS : Hid (MatAt wr (w.heap.size + 1) (stepsS (l.take k))) := hs
    clear hz hs
    by_cases hlt : k < l.length
    · obtain ⟨rfl, c0, c1⟩ := HO.out wr hbel k hlt
      obtain ⟨⟨t, a⟩, ho⟩ : ∃ o : Edge2, l.getD k (0, 0) = o := ⟨_, rfl⟩
      rw [ho] at c0 c1
      have hmem : (t, a) ∈ l := by rw [← ho]; simp [List.getD, List.getElem?_eq_getElem hlt]
      have hta := HD.out _ hmem
      simp only at hta c0 c1
      obtain ⟨t, rfl⟩ : ∃ n : Nat, t = n := ⟨t.toNat, by omega⟩
      obtain ⟨a, rfl⟩ : ∃ n : Nat, a = n := ⟨a.toNat, by omega⟩
      have HT : Hid (l.take (k + 1) = l.take k ++ [((t : Int), (a : Int))]) := by
        show l.take (k + 1) = l.take k ++ [((t : Int), (a : Int))]
        rw [List.take_succ_eq_append_getElem hlt, ← ho]; simp [List.getD, List.getElem?_eq_getElem hlt]
      have ht1 : 1 ≤ t := by omega
      have ht6 : t ≤ 6 := by omega
      have ha1 : 1 ≤ a := by omega
      have ha6 : a ≤ 6 := by omega
      clear ho hmem hta
      have hsz := hbel.size
      have ht7 : (t : Int) < 7 := by omega
      have ha7 : (a : Int) < 7 := by omega
      have hB0 : w.heap.size < wr.heap.size := by omega
      have f0 := HS.out.cell (i := t) (k := a) (by omega) (by omega)
      have z0 := HS.out.thaw (t * 7 + a)
      go_wp2
      go_region
      all_goals
        go_wp2
        go_roundw
        case rel => exact ⟨k + 1, by omega, by go_num, ((hbel.setCell (by simp) _).alloc (by simpa using hsz) _).drew, ((HZ.out.far _ (by simp)).alloc _).drew, (((HS.out.set (by omega)).alloc _).drew).congr (by rw [HT.out, set_steps])⟩
        case measure => simp [intOf]; omega
    · have HS' : Hid (MatAt wr (w.heap.size + 1) (stepsS l)) := by
        have h1 := HS.out
        rw [List.take_of_length_le (by omega)] at h1
        exact h1
      clear HS
      go_wp2_with (first | refine wpList_load_row rfl 94 (.tmp 3) rfl (w.heap.size + 1) rfl 94 (cells49 (stepsS l)) (0, 0) _ HS'.out Try.underlying94 rfl (mat_info' _) ?_ | refine wpList_store_row rfl 94 (.tmp 2) (.tmp 19) rfl w.heap.size (cells49 (stepsS l)) rfl rfl 94 (cells49 fun _ _ => false) HZ.out (mat_info' _) (by rw [cells49_size, cells49_size]) (cells49_one _) ?_)
      exact bodyPost_ret (v := .agg (cells49 (stepsS l))) (results_cell_row Try.results53 _ _ w.heap.size 94 (cells49 (stepsS l)) (0, 0) _ rfl (setRow_heap _ _ _ _ _ _ HZ.out) Try.underlying94 rfl (mat_info' _)) rfl ⟨rfl, below_setRow hbel (Nat.le_refl _) _⟩
end Go.Proofs.Ytgnbejemhdcemac

namespace Go.Proofs.Ytgnbejemhdcemac
open Go.RowKit

/-- Of the blocks below a base only one has turned. -/
structure Past (a B : Nat) (w w' : World) : Prop where
  os : w'.os = w.os
  tape : w'.tape = w.tape
  output : w'.output = w.output
  size : w.heap.size ≤ w'.heap.size
  block : ∀ k, k < B → k ≠ a → w'.heap[k]? = w.heap[k]?
theorem Past.refl (a B : Nat) (w : World) : Past a B w w := ⟨rfl, rfl, rfl, Nat.le_refl _, fun _ _ _ => rfl⟩
theorem Past.trans {a B : Nat} {w w1 w2 : World} (h : Past a B w w1) (k : Past a B w1 w2) : Past a B w w2 :=
  ⟨k.os.trans h.os, k.tape.trans h.tape, k.output.trans h.output, Nat.le_trans h.size k.size, fun j h1 h2 => (k.block j h1 h2).trans (h.block j h1 h2)⟩
theorem Past.mono {a B C : Nat} {w w1 : World} (h : Past a B w w1) (hC : C ≤ B) : Past a C w w1 := ⟨h.os, h.tape, h.output, h.size, fun k h1 h2 => h.block k (by omega) h2⟩
theorem Past.set {a B : Nat} {w w1 : World} (h : Past a B w w1) (o : Nat) (v : Value) : Past a B w (w1.setCell ⟨a, o, none⟩ v) :=
  ⟨h.os, h.tape, h.output, by simpa using h.size, fun k h1 h2 => (Below.heap_setCell w1 ⟨a, o, none⟩ v k h2).trans (h.block k h1 h2)⟩
theorem Past.drew {a B : Nat} {w w1 : World} (h : Past a B w w1) : Past a B w w1.drew := ⟨h.os, h.tape, h.output, h.size, h.block⟩
theorem Past.below {a B : Nat} {w w1 : World} (h : Past a B w w1) {C : Nat} (hC : C ≤ B) (ha : C ≤ a) : Below C w w1 := ⟨h.os, h.tape, h.output, h.size, fun k hk => h.block k (by omega) (by omega)⟩
theorem Past.cell {a B : Nat} {w w1 : World} (h : Past a B w w1) {p : Addr} (hp : p.block < B) (ha : p.block ≠ a) : w1.cell? p = w.cell? p := World.cell?_of_block (h.block _ hp ha)
theorem MatAt.past {w w1 : World} {b a B : Nat} {s : Step7} (h : MatAt w b s) (hp : Past a B w w1) (hB : b < B) (ha : b ≠ a) : MatAt w1 b s := (hp.block b hB ha).trans h

theorem store_func {P : Program} (w : World) (f : Fn) (ts cs : Array Value) (old : Value) (T : TypeId) (n : Nat) (hn : n = w.heap.size) :
    (store ⟨n, 0, none⟩ (.func f ts cs)).run P (w.alloc (.cells #[old] T)) = .ok () (w.alloc (.cells #[.func f ts cs] T)) := by
  subst hn
  rw [run_store _ _ _ _ _ rfl]
  simp [World.setCell_alloc_new]

end Go.Proofs.Ytgnbejemhdcemac

namespace Go.Proofs.Ytgnbejemhdcemac
open Go.RowKit

def natV (r : List Nat) : List Value := r.map fun (k : Nat) => Value.int .i64 (k : Int)
theorem natV_length (r : List Nat) : (natV r).length = r.length := by simp [natV]
theorem natV_snoc (r : List Nat) (t : Nat) : natV (r ++ [t]) = natV r ++ [.int .i64 (t : Int)] := by simp [natV]
theorem natV_take (r : List Nat) (k : Nat) : (natV r).take k = natV (r.take k) := by simp [natV, List.map_take]
theorem own_take {w : World} {base e g n cap k : Nat} {xs : List Value} (h : w.ownsRow base e 1 (.slice (some ⟨g, 0, none⟩) n cap) n xs) (hk : k ≤ n) : w.ownsRow base e 1 (.slice (some ⟨g, 0, none⟩) k cap) k (xs.take k) := by
  obtain ⟨hl, ⟨hv, _⟩ | ⟨g', cap', cur, hv, hb, hg, hn, hm, hs, ht⟩⟩ := h
  · cases hv
  · simp only [Value.slice.injEq, Option.some.injEq, Addr.mk.injEq, and_true, true_and] at hv
    obtain ⟨rfl, rfl⟩ := hv
    refine ⟨by simp; omega, .inr ⟨g, cap, cur, rfl, hb, hg, by omega, hm, hs, ?_⟩⟩
    rw [← ht, List.take_take, Nat.mul_one, Nat.mul_one, Nat.min_eq_left hk]
theorem own_some {w : World} {base e n : Nat} {v : Value} {xs : List Value} (h : w.ownsRow base e 1 v n xs) (hn : 0 < n) : ∃ g cap, v = .slice (some ⟨g, 0, none⟩) n cap ∧ base ≤ g ∧ n ≤ cap := by
  obtain ⟨_, ⟨_, h0⟩ | ⟨g, cap, cur, hv, hb, _, hc, _⟩⟩ := h
  · omega
  · exact ⟨g, cap, hv, hb, hc⟩

theorem Past.drewN {a B n : Nat} {w w1 : World} (h : Past a B w w1) : Past a B w (w1.drewN n) := ⟨h.os, h.tape, h.output, h.size, h.block⟩
theorem Past.of_below {a B : Nat} {w w1 : World} (h : Below B w w1) : Past a B w w1 := ⟨h.os, h.tape, h.output, h.size, fun k hk _ => h.block k hk⟩
/-- The closure's four variables. -/
structure GrowAt (w : World) (p0 p1 p2 p3 base n : Nat) (m : Step7) (v : Value) (r : List Nat) : Prop where
  ring : w.cell? ⟨p0, 0, none⟩ = some v
  thaw : w.frozen? ⟨p0, 0, none⟩ = false
  own : w.ownsRow base 3 1 v r.length (natV r)
  num : w.cell? ⟨p1, 0, none⟩ = some (.int .i64 n)
  mat : MatAt w p2 m
  fn : w.cell? ⟨p3, 0, none⟩ = some (.func (.func 74) #[] #[.pointer (some ⟨p0, 0, none⟩), .pointer (some ⟨p1, 0, none⟩), .pointer (some ⟨p2, 0, none⟩), .pointer (some ⟨p3, 0, none⟩)])
  lt : p0 < base ∧ p1 < base ∧ p2 < base ∧ p3 < base ∧ base ≤ w.heap.size
  ne : p1 ≠ p0 ∧ p2 ≠ p0 ∧ p3 ≠ p0
theorem GrowAt.past {w w1 : World} {p0 p1 p2 p3 base n : Nat} {m : Step7} {v v1 : Value} {r r1 : List Nat} (h : GrowAt w p0 p1 p2 p3 base n m v r) (hp : Past p0 base w w1)
    (h1 : w1.cell? ⟨p0, 0, none⟩ = some v1) (h2 : w1.frozen? ⟨p0, 0, none⟩ = false) (h3 : w1.ownsRow base 3 1 v1 r1.length (natV r1)) : GrowAt w1 p0 p1 p2 p3 base n m v1 r1 where
  ring := h1
  thaw := h2
  own := h3
  num := (hp.cell (p := ⟨p1, 0, none⟩) h.lt.2.1 h.ne.1).trans h.num
  mat := h.mat.past hp h.lt.2.2.1 h.ne.2.1
  fn := (hp.cell (p := ⟨p3, 0, none⟩) h.lt.2.2.2.1 h.ne.2.2).trans h.fn
  lt := ⟨h.lt.1, h.lt.2.1, h.lt.2.2.1, h.lt.2.2.2.1, Nat.le_trans h.lt.2.2.2.2 hp.size⟩
  ne := h.ne
def GrowOk (f : Nat) : Prop := ∀ (r : List Nat) (w : World) (p0 p1 p2 p3 base n : Nat) (m : Step7) (v : Value), r.length + f = n → 1 ≤ n → n ≤ 6 → (∀ k ∈ r, k ≤ 6) → GrowAt w p0 p1 p2 p3 base n m v r →
  Calls Try.prog 74 #[.pointer (some ⟨p0, 0, none⟩), .pointer (some ⟨p1, 0, none⟩), .pointer (some ⟨p2, 0, none⟩), .pointer (some ⟨p3, 0, none⟩)] w fun e w' => (∃ v' r', ((growF m f r = some r' ∧ e = .returned (.bool true)) ∨ (growF m f r = none ∧ r' = r ∧ e = .returned (.bool false))) ∧ GrowAt w' p0 p1 p2 p3 base n m v' r') ∧ Past p0 base w w'

theorem ends_at {r : List Nat} (h : r ≠ []) : ∃ k, r.length = k + 1 ∧ (natV r)[k]? = some (.int .i64 (lastN r : Int)) ∧ (natV r)[0]? = some (.int .i64 (headN r : Int)) ∧ lastN r ∈ r ∧ headN r ∈ r := by
  have hl : 0 < r.length := List.length_pos_iff.2 h
  refine ⟨r.length - 1, by omega, ?_, ?_, ?_, ?_⟩
  · simp [natV, lastN, List.getLastD_eq_getLast?, List.getLast?_eq_getElem?, List.getElem?_eq_getElem (show r.length - 1 < r.length by omega)]
  · cases r with
    | nil => exact absurd rfl h
    | cons a t => simp [natV, headN]
  · rw [lastN, List.getLastD_eq_getLast?, List.getLast?_eq_some_getLast h]; exact List.getLast_mem h
  · cases r with
    | nil => exact absurd rfl h
    | cons a t => simp [headN]

set_option maxHeartbeats 4000000 in
theorem grow_zero : GrowOk 0 := by
  intro r w p0 p1 p2 p3 base n m v hn hn1 hn6 hr hG
  have HG : Hid (GrowAt w p0 p1 p2 p3 base n m v r) := hG
  have hne : r ≠ [] := fun e => by subst e; simp at hn; omega
  obtain ⟨k, hk, hla, hhe, hml, hmh⟩ := ends_at hne
  obtain ⟨g, cap, hv, hbg, hcap⟩ := own_some hG.own (by omega)
  have hnk : n = k + 1 := by omega
  have hown := hG.own
  rw [hv, hk] at hown
  have f0 := hown.cellAt k (by omega)
  have f1 := hown.cellAt 0 (by omega)
  rw [hla] at f0
  rw [hhe] at f1
  have c0 := hG.ring
  have c1 := hG.num
  rw [hv, hk] at c0
  rw [hnk] at c1
  obtain ⟨la, hlae⟩ : ∃ la, lastN r = la := ⟨_, rfl⟩
  obtain ⟨he, hhee⟩ : ∃ he, headN r = he := ⟨_, rfl⟩
  have hl6 := hr _ hml
  have hh6 := hr _ hmh
  have HR : Hid (growF m 0 r = if m la he = true then some r else none) := by show growF m 0 r = _; rw [growF, hlae, hhee]
  rw [hlae] at f0 hl6
  rw [hhee] at f1 hh6
  have c2 := hG.mat.cell (i := la) (k := he) (by omega) (by omega)
  have la7 : (la : Int) < 7 := by omega
  have he7 : (he : Int) < 7 := by omega
  have hk6 : k ≤ 5 := by omega
  clear hG hown hla hhe hml hmh hv hnk hk hlae hhee hr hne hn hn1 hn6
  cases hm : m la he with
  | true =>
    rw [hm] at c2
    have HQ : Hid (growF m 0 r = some r) := by show growF m 0 r = some r; rw [HR.out, hm]; rfl
    clear hm
    go_enter Try.func74, Try.ntmps74
    go_wp2_with fail
    go_quiet (fail)
    go_wp2_with fail
    go_ret
    exact ⟨⟨v, r, .inl ⟨HQ.out, rfl⟩, HG.out.past (Past.refl _ _ _).drewN HG.out.ring HG.out.thaw HG.out.own⟩, (Past.refl _ _ _).drewN⟩
  | false =>
    rw [hm] at c2
    have HQ : Hid (growF m 0 r = none) := by show growF m 0 r = none; rw [HR.out, hm]; rfl
    clear hm
    go_enter Try.func74, Try.ntmps74
    go_wp2_with fail
    go_quiet (fail)
    go_wp2_with fail
    go_ret
    exact ⟨⟨v, r, .inr ⟨HQ.out, rfl, rfl⟩, HG.out.past (Past.refl _ _ _).drewN HG.out.ring HG.out.thaw HG.out.own⟩, (Past.refl _ _ _).drewN⟩
set_option maxHeartbeats 8000000 in
theorem grow_succ (f : Nat) (ih : GrowOk f) : GrowOk (f + 1) := by
  intro r w p0 p1 p2 p3 base n m v hn hn1 hn6 hr hG
  have IH : Hid (GrowOk f) := ih
  have HR : Hid (∀ k ∈ r, k ≤ 6) := hr
  obtain ⟨i0, hi, hz0, hs0, hy0⟩ := info_parts infoInt
  have HT : Hid (Try.prog.info? 3 = some i0 ∧ i0.zero = some (.int .i64 0) ∧ i0.size = 1 ∧ i0.bytes = 8) := ⟨hi, hz0, hs0, hy0⟩
  obtain ⟨ad, hv⟩ : ∃ ad cap, v = .slice ad r.length cap := by
    obtain ⟨_, ⟨h1, h2⟩ | ⟨g, cap, cur, h1, _⟩⟩ := hG.own
    · exact ⟨none, 0, by rw [h1, h2]⟩
    · exact ⟨_, cap, h1⟩
  obtain ⟨cap, rfl⟩ := hv
  have HG : Hid (GrowAt w p0 p1 p2 p3 base n m (.slice ad r.length cap) r) := hG
  have c0 := hG.ring
  have c1 := hG.num
  obtain ⟨ln, hln⟩ : ∃ ln, r.length = ln := ⟨_, rfl⟩
  have HLN : Hid (r.length = ln) := hln
  rw [hln] at c0 hn
  have hne : ((ln : Int) == (n : Int)) = false := by simp; omega
  have hl5 : ln ≤ 5 := by omega
  clear hG ih hr hi hz0 hs0 hy0 hln
  go_enter Try.func74, Try.ntmps74
  go_wp2_with fail
  go_loopw [5] (fun v5 wr => ∃ (t : Nat) (vk : Value), 1 ≤ t ∧ t ≤ 7 ∧ v5 = .int .i64 t ∧ GrowAt wr p0 p1 p2 p3 base n m vk r ∧ Past p0 base w wr ∧ (∀ j, 1 ≤ j → j < t → okB m r j = true → growF m f (r ++ [j]) = none)) (fun v5 _ => 7 - (intOf v5).toNat)
  case atStart => exact ⟨1, _, by omega, by omega, rfl, HG.out, Past.refl _ _ _, fun j h1 h2 => absurd h1 (by omega)⟩
  case round =>
    clear c0 c1
    obtain ⟨t, vk, ht1, ht7, rfl, hK, hpast, hno⟩ := hrel
    have HK : Hid (GrowAt wr p0 p1 p2 p3 base n m vk r) := hK
    have HNO : Hid (∀ j, 1 ≤ j → j < t → okB m r j = true → growF m f (r ++ [j]) = none) := hno
    clear hK hno
    by_cases hlt : t < 7
    · have ht6 : (t : Int) ≤ 6 := by omega
      have hti : (t : Int) < 7 := by omega
      obtain ⟨adk, capk, hvk⟩ : ∃ ad cap, vk = .slice ad ln cap := by
        obtain ⟨_, ⟨h1, h2⟩ | ⟨g, cap, cur, h1, _⟩⟩ := HK.out.own
        · exact ⟨none, 0, by rw [h1, ← HLN.out, h2]⟩
        · exact ⟨_, cap, by rw [← HLN.out]; exact h1⟩
      subst hvk
      have c0 := HK.out.ring
      have hbase := HK.out.lt.2.2.2.2
      have hp0 : p0 < wr.heap.size := by have := HK.out.lt.1; omega
      have h30 := HK.out.ne.2.2
      have h03 : ¬ p0 = p3 := fun e => h30 e.symm
      have HOWN : Hid (wr.ownsRow base 3 1 (.slice adk ln capk) ln (natV r)) := by have h1 := HK.out.own; rw [HLN.out] at h1; exact h1
      by_cases hrn : r = []
      · have HOK : Hid (okB m r t = true) := by show okB m r t = true; rw [hrn]; rfl
        have hl0 : ln = 0 := by rw [← HLN.out, hrn]; rfl
        have hl0' : ¬ (0 : Int) < (ln : Int) := by omega
        clear hrn hl0
        go_wp2_with (
          at_builtin
          refine wpList_append_own _ rfl (.tmp 41) (.tmp 43) 31 rfl base 3 i0 (.int .i64 0) 1 8 Try.underlying31 HT.out.1 HT.out.2.1 HT.out.2.2.1 HT.out.2.2.2 rfl (by decide) (.slice adk ln capk) ln (natV r) rfl (HOWN.out.alloc _) ⟨wr.heap.size, 0, none⟩ 1 1 [.int .i64 t] rfl rfl (cell_one_new _ _ _) (by simp [Value.oneCell']) (by unfold maxLen; omega) (by omega) (by simp; omega) ?_
          intro v1 w1 hown1 hgr1 hnil1
          have hB1 : Below base wr w1 := ((Below.refl base wr).alloc hbase _).grown hgr1 (by simp; omega) (fun m hm => (HOWN.out.lt m hm).1)
          obtain ⟨g1, cap1, rfl, hg1, hcap1⟩ := own_some hown1 (by omega)
          have d0 : w1.cell? ⟨p0, 0, none⟩ = some (.slice adk ln capk) := (hB1.cell (p := ⟨p0, 0, none⟩) HK.out.lt.1).trans c0
          have z0 : w1.frozen? ⟨p0, 0, none⟩ = false := (hB1.frozen (p := ⟨p0, 0, none⟩) HK.out.lt.1).trans HK.out.thaw
          have d3 := (hB1.cell (p := ⟨p3, 0, none⟩) HK.out.lt.2.2.2.1).trans HK.out.fn
          have HOWN1 : Hid (w1.ownsRow base 3 1 (.slice (some ⟨g1, 0, none⟩) (ln + 1) cap1) (ln + 1) (natV r ++ [.int .i64 t])) := hown1
          clear hown1 hgr1 hnil1)
        have HP1 : Hid (Past p0 base wr (w1.setCell ⟨p0, 0, none⟩ (.slice (some ⟨g1, 0, none⟩) (ln + 1) cap1))) := (Past.of_below hB1).set 0 _
        have HG1 : Hid (GrowAt (w1.setCell ⟨p0, 0, none⟩ (.slice (some ⟨g1, 0, none⟩) (ln + 1) cap1)) p0 p1 p2 p3 base n m (.slice (some ⟨g1, 0, none⟩) (ln + 1) cap1) (r ++ [t])) :=
          HK.out.past HP1.out (World.cell?_setCell_same _ _ _ d0) (by rw [World.frozen?_setCell]; exact z0) (by
            rw [natV_snoc, List.length_append, HLN.out]
            exact ownsRow_setCell_below HOWN1.out HK.out.lt.1 _)
        clear d0 z0 d3 HOWN1
        refine (IH.out (r ++ [t]) _ p0 p1 p2 p3 base n m _ (by simp; have := HLN.out; omega) hn1 hn6 (fun k hk => by
          rcases List.mem_append.1 hk with h | h
          · exact HR.out k h
          · rw [List.mem_singleton.1 h]; omega) HG1.out).mono ?_
        rintro e w2 ⟨⟨v2, r2, hor, hG2⟩, hp2⟩
        have HP2 : Hid (Past p0 base w w2) := (hpast.trans HP1.out).trans hp2
        rcases hor with ⟨hsome, rfl⟩ | ⟨hnone, rfl, rfl⟩
        · have HQ : Hid (growF m (f + 1) r = some r2) := growF_hit ht1 (by omega) HOK.out hsome HNO.out
          go_wp2_with fail
          go_ret
          exact ⟨⟨v2, r2, .inl ⟨HQ.out, rfl⟩, hG2⟩, HP2.out⟩
        · have HG2 : Hid (GrowAt w2 p0 p1 p2 p3 base n m v2 (r ++ [t])) := hG2
          have hown2 := hG2.own
          rw [List.length_append, HLN.out] at hown2
          obtain ⟨g2, cap2, hv2, hg2, hcap2⟩ := own_some hown2 (by simp)
          subst hv2
          have e0 := hG2.ring
          have y0 := hG2.thaw
          simp only [List.length_singleton] at e0 hown2 hcap2
          have hlc2 : ln ≤ cap2 := by omega
          have HOWN2 : Hid (w2.ownsRow base 3 1 (.slice (some ⟨g2, 0, none⟩) ln cap2) ln (natV r)) := by
            have h1 := own_take hown2 (show ln ≤ ln + 1 by omega)
            rw [natV_take, List.take_left' HLN.out] at h1
            exact h1
          have HNN : Hid (growF m f (r ++ [t]) = none) := hnone
          clear hG2 hown2 hnone hp2
          go_wp2_with fail
          go_roundw
          case rel =>
            refine ⟨t + 1, .slice (some ⟨g2, 0, none⟩) ln cap2, by omega, by omega, by go_num, HG2.out.past ((Past.refl _ _ _).set 0 _) (World.cell?_setCell_same _ _ _ e0) (by rw [World.frozen?_setCell]; exact y0) (by rw [HLN.out]; exact ownsRow_setCell_below HOWN2.out HK.out.lt.1 _), HP2.out.set 0 _, fun j h1 h2 h3 => ?_⟩
            rcases Nat.lt_or_ge j t with h | h
            · exact HNO.out j h1 h h3
            · rw [show j = t by omega]; exact HNN.out
          case measure => simp [intOf]; omega
      · obtain ⟨k, hk, hla, -, hml, -⟩ := ends_at hrn
        have hlk : ln = k + 1 := by rw [← HLN.out]; exact hk
        obtain ⟨g, cap', hv', -, -⟩ := own_some HOWN.out (by omega)
        simp only [Value.slice.injEq, true_and] at hv'
        obtain ⟨rfl, rfl⟩ := hv'
        have f0 := HOWN.out.cellAt k (by omega)
        rw [hla] at f0
        obtain ⟨la, hlae⟩ : ∃ la, lastN r = la := ⟨_, rfl⟩
        have hl6 := HR.out _ hml
        have HOKE : Hid (okB m r t = m la t) := by show okB m r t = m la t; rw [okB_cons hrn, hlae]
        rw [hlae] at f0 hl6
        have c2 := HK.out.mat.cell (i := la) (k := t) (by omega) hlt
        have la7 : (la : Int) < 7 := by omega
        have hl0' : (0 : Int) < (ln : Int) := by omega
        have hkl : (ln : Int) - 1 = (k : Int) := by omega
        have hkl2 : (k : Int) < (ln : Int) := by omega
        clear hrn hk hla hml hlae
        cases hm : m la t with
        | false =>
          rw [hm] at c2
          have HOK : Hid (okB m r t = false) := by show okB m r t = false; rw [HOKE.out, hm]
          clear hm hlk
          go_wp2_with fail
          go_roundw
          case rel =>
            refine ⟨t + 1, _, by omega, by omega, by go_num, HK.out, hpast, fun j h1 h2 h3 => ?_⟩
            rcases Nat.lt_or_ge j t with h | h
            · exact HNO.out j h1 h h3
            · rw [show j = t by omega, HOK.out] at h3; cases h3
          case measure => simp [intOf]; omega
        | true =>
          rw [hm] at c2
          have HOK : Hid (okB m r t = true) := by show okB m r t = true; rw [HOKE.out, hm]
          clear hm hlk
          go_wp2_with (
            at_builtin
            refine wpList_append_own _ rfl (.tmp 41) (.tmp 43) 31 rfl base 3 i0 (.int .i64 0) 1 8 Try.underlying31 HT.out.1 HT.out.2.1 HT.out.2.2.1 HT.out.2.2.2 rfl (by decide) (.slice (some ⟨g, 0, none⟩) ln capk) ln (natV r) rfl (HOWN.out.alloc _) ⟨wr.heap.size, 0, none⟩ 1 1 [.int .i64 t] rfl rfl (cell_one_new _ _ _) (by simp [Value.oneCell']) (by unfold maxLen; omega) (by omega) (by simp; omega) ?_
            intro v1 w1 hown1 hgr1 hnil1
            have hB1 : Below base wr w1 := ((Below.refl base wr).alloc hbase _).grown hgr1 (by simp; omega) (fun m hm => (HOWN.out.lt m hm).1)
            obtain ⟨g1, cap1, rfl, hg1, hcap1⟩ := own_some hown1 (by omega)
            have d0 : w1.cell? ⟨p0, 0, none⟩ = some (.slice (some ⟨g, 0, none⟩) ln capk) := (hB1.cell (p := ⟨p0, 0, none⟩) HK.out.lt.1).trans c0
            have z0 : w1.frozen? ⟨p0, 0, none⟩ = false := (hB1.frozen (p := ⟨p0, 0, none⟩) HK.out.lt.1).trans HK.out.thaw
            have d3 := (hB1.cell (p := ⟨p3, 0, none⟩) HK.out.lt.2.2.2.1).trans HK.out.fn
            have HOWN1 : Hid (w1.ownsRow base 3 1 (.slice (some ⟨g1, 0, none⟩) (ln + 1) cap1) (ln + 1) (natV r ++ [.int .i64 t])) := hown1
            clear hown1 hgr1 hnil1)
          have HP1 : Hid (Past p0 base wr (w1.setCell ⟨p0, 0, none⟩ (.slice (some ⟨g1, 0, none⟩) (ln + 1) cap1))) := (Past.of_below hB1).set 0 _
          have HG1 : Hid (GrowAt (w1.setCell ⟨p0, 0, none⟩ (.slice (some ⟨g1, 0, none⟩) (ln + 1) cap1)) p0 p1 p2 p3 base n m (.slice (some ⟨g1, 0, none⟩) (ln + 1) cap1) (r ++ [t])) :=
            HK.out.past HP1.out (World.cell?_setCell_same _ _ _ d0) (by rw [World.frozen?_setCell]; exact z0) (by
              rw [natV_snoc, List.length_append, HLN.out]
              exact ownsRow_setCell_below HOWN1.out HK.out.lt.1 _)
          clear d0 z0 d3 HOWN1
          refine (IH.out (r ++ [t]) _ p0 p1 p2 p3 base n m _ (by simp; have := HLN.out; omega) hn1 hn6 (fun k hk => by
            rcases List.mem_append.1 hk with h | h
            · exact HR.out k h
            · rw [List.mem_singleton.1 h]; omega) HG1.out).mono ?_
          rintro e w2 ⟨⟨v2, r2, hor, hG2⟩, hp2⟩
          have HP2 : Hid (Past p0 base w w2) := (hpast.trans HP1.out).trans hp2
          rcases hor with ⟨hsome, rfl⟩ | ⟨hnone, rfl, rfl⟩
          · have HQ : Hid (growF m (f + 1) r = some r2) := growF_hit ht1 (by omega) HOK.out hsome HNO.out
            go_wp2_with fail
            go_ret
            exact ⟨⟨v2, r2, .inl ⟨HQ.out, rfl⟩, hG2⟩, HP2.out⟩
          · have HG2 : Hid (GrowAt w2 p0 p1 p2 p3 base n m v2 (r ++ [t])) := hG2
            have hown2 := hG2.own
            rw [List.length_append, HLN.out] at hown2
            obtain ⟨g2, cap2, hv2, hg2, hcap2⟩ := own_some hown2 (by simp)
            subst hv2
            have e0 := hG2.ring
            have y0 := hG2.thaw
            simp only [List.length_singleton] at e0 hown2 hcap2
            have hlc2 : ln ≤ cap2 := by omega
            have HOWN2 : Hid (w2.ownsRow base 3 1 (.slice (some ⟨g2, 0, none⟩) ln cap2) ln (natV r)) := by
              have h1 := own_take hown2 (show ln ≤ ln + 1 by omega)
              rw [natV_take, List.take_left' HLN.out] at h1
              exact h1
            have HNN : Hid (growF m f (r ++ [t]) = none) := hnone
            clear hG2 hown2 hnone hp2
            go_wp2_with fail
            go_roundw
            case rel =>
              refine ⟨t + 1, .slice (some ⟨g2, 0, none⟩) ln cap2, by omega, by omega, by go_num, HG2.out.past ((Past.refl _ _ _).set 0 _) (World.cell?_setCell_same _ _ _ e0) (by rw [World.frozen?_setCell]; exact y0) (by rw [HLN.out]; exact ownsRow_setCell_below HOWN2.out HK.out.lt.1 _), HP2.out.set 0 _, fun j h1 h2 h3 => ?_⟩
              rcases Nat.lt_or_ge j t with h | h
              · exact HNO.out j h1 h h3
              · rw [show j = t by omega]; exact HNN.out
            case measure => simp [intOf]; omega
    · have ht6 : ¬ (t : Int) ≤ 6 := by omega
      have HQ : Hid (growF m (f + 1) r = none) := growF_none fun j h1 h2 => HNO.out j h1 (by omega)
      go_wp2_with fail
      go_ret
      exact ⟨⟨vk, r, .inr ⟨HQ.out, rfl, rfl⟩, HK.out⟩, hpast⟩
end Go.Proofs.Ytgnbejemhdcemac

namespace Go.Proofs.Ytgnbejemhdcemac
open Go.RowKit

theorem grow_any (f : Nat) : GrowOk f := by
  induction f with
  | zero => exact grow_zero
  | succ f ih => exact grow_succ f ih
theorem natV_ints (r : List Nat) : natV r = (r.map fun (k : Nat) => (k : Int)).map (Value.int .i64) := by simp [natV]

theorem grow_start (n : Nat) (w : World) (m : Step7) : GrowAt ((((w.alloc (.cells #[.int .i64 n] 3)).alloc (.cells (cells49 m) 94)).alloc (.cells #[.slice none 0 0] 31)).alloc (.cells #[.func (.func 74) #[] #[.pointer (some ⟨w.heap.size + 1 + 1, 0, none⟩), .pointer (some ⟨w.heap.size, 0, none⟩), .pointer (some ⟨w.heap.size + 1, 0, none⟩), .pointer (some ⟨w.heap.size + 1 + 1 + 1, 0, none⟩)]] 115)) (w.heap.size + 1 + 1) w.heap.size (w.heap.size + 1) (w.heap.size + 1 + 1 + 1) (w.heap.size + 4) n m (.slice none 0 0) [] ∧ Below w.heap.size w ((((w.alloc (.cells #[.int .i64 n] 3)).alloc (.cells (cells49 m) 94)).alloc (.cells #[.slice none 0 0] 31)).alloc (.cells #[.func (.func 74) #[] #[.pointer (some ⟨w.heap.size + 1 + 1, 0, none⟩), .pointer (some ⟨w.heap.size, 0, none⟩), .pointer (some ⟨w.heap.size + 1, 0, none⟩), .pointer (some ⟨w.heap.size + 1 + 1 + 1, 0, none⟩)]] 115)) := by
  have hm : MatAt ((w.alloc (.cells #[.int .i64 n] 3)).alloc (.cells (cells49 m) 94)) (w.heap.size + 1) m := by
    have := mat_box (w.alloc (.cells #[.int .i64 n] 3)) m
    simpa using this
  refine ⟨⟨?_, ?_, World.ownsRow_nil _ _ _ _, ?_, (hm.alloc _).alloc _, ?_, ⟨by omega, by omega, by omega, by omega, by simp⟩, by omega, by omega, by omega⟩, ((((Below.refl _ w).alloc (Nat.le_refl _) _).alloc (by simp) _).alloc (by simp; omega) _).alloc (by simp; omega) _⟩
  · rw [World.cell?_alloc_past _ _ _ (by simp), World.cell?_alloc_at _ _ _ _ (by simp)]; rfl
  · rw [World.frozen?_alloc_past _ _ _ (by simp), World.frozen?_alloc_at _ _ _ _ (by simp)]
  · rw [World.cell?_alloc_past _ _ _ (by simp; omega), World.cell?_alloc_past _ _ _ (by simp; omega), World.cell?_alloc_past _ _ _ (by simp), World.cell?_alloc_at _ _ _ _ rfl]; rfl
  · rw [World.cell?_alloc_at _ _ _ _ (by simp)]; rfl

set_option maxHeartbeats 4000000 in
theorem ringOf_any (n : Nat) (m : Step7) (w : World) (h1 : 1 ≤ n) (h6 : n ≤ 6) :
    Calls Try.prog 54 #[.int .i64 n, .agg (cells49 m)] w fun e w' => ∃ (v' : Value) (r' : List Nat), e = .returned v' ∧ (growF m n [] = some r' ∨ (growF m n [] = none ∧ r' = [])) ∧ IsInts w' v' (r'.map fun (k : Nat) => (k : Int)) ∧ Below w.heap.size w w' := by
  go_enter Try.func54, Try.ntmps54
  go_wp2_with fail
  rw [store_func _ _ _ _ _ _ _ (by simp)]
  go_wp2_with fail
  have hst := grow_start n w m
  obtain ⟨W0, hW0⟩ : ∃ W0, W0 = ((((w.alloc (.cells #[.int .i64 n] 3)).alloc (.cells (cells49 m) 94)).alloc (.cells #[.slice none 0 0] 31)).alloc (.cells #[.func (.func 74) #[] #[.pointer (some ⟨w.heap.size + 1 + 1, 0, none⟩), .pointer (some ⟨w.heap.size, 0, none⟩), .pointer (some ⟨w.heap.size + 1, 0, none⟩), .pointer (some ⟨w.heap.size + 1 + 1 + 1, 0, none⟩)]] 115)) := ⟨_, rfl⟩
  rw [← hW0] at hst ⊢
  clear hW0
  obtain ⟨hG, hbe⟩ := hst
  refine (grow_any n [] W0 _ _ _ _ _ n m _ (by simp) h1 h6 (fun k hk => by cases hk) hG).mono ?_
  rintro e w1 ⟨⟨v1, r1, hor, hG1⟩, hp1⟩
  have HG1 : Hid (GrowAt w1 (w.heap.size + 1 + 1) w.heap.size (w.heap.size + 1) (w.heap.size + 1 + 1 + 1) (w.heap.size + 4) n m v1 r1) := hG1
  have HB : Hid (Below w.heap.size w w1) := hbe.trans (hp1.below (by omega) (by omega))
  have c0 := hG1.ring
  have HI : Hid (IsInts w1 v1 (r1.map fun (k : Nat) => (k : Int))) := isInts_own (n := r1.length) (by have := hG1.own; rw [natV_ints] at this; exact this) (by simp)
  clear hG hbe hG1 hp1
  rcases hor with ⟨hs, rfl⟩ | ⟨hs, hr, rfl⟩
  · have HS : Hid (growF m n [] = some r1) := hs
    clear hs
    go_wp2_with fail
    go_ret
    exact ⟨v1, r1, rfl, .inl HS.out, HI.out, HB.out⟩
  · have HS : Hid (growF m n [] = none ∧ r1 = []) := ⟨hs, hr⟩
    clear hs hr
    go_wp2_with fail
    go_ret
    exact ⟨v1, r1, rfl, .inr HS.out, HI.out, HB.out⟩

theorem ring_bad (l : List Edge2) (v : Value) (w : World) (hI : IsEdges w v l) (hc : gchk l ≠ 0) :
    Calls Try.prog 18 #[v] w fun e w' => e = .returned (.tuple #[.slice none 0 0, .iface 70 (.int .i64 (gchk l))]) ∧ Below w.heap.size w w' := by
  go_enter Try.func18, Try.ntmps18
  go_wp2_with (go_at_call 52; refine (gcheck_bad l _ _ hI hc).mono ?_; rintro e w1 ⟨rfl, hb1⟩)
  go_ret2
  exact ⟨rfl, hb1⟩
set_option maxHeartbeats 4000000 in
theorem ring_any (l : List Edge2) (v : Value) (w : World) (hI : IsEdges w v l) (hc : gchk l = 0) :
    Calls Try.prog 18 #[v] w fun e w' => ((∃ (r : List Nat) (v' : Value), ringL l = some r ∧ e = .returned (.tuple #[v', .nilIface]) ∧ IsInts w' v' (r.map fun (k : Nat) => (k : Int))) ∨ (ringL l = none ∧ e = .returned (.tuple #[.slice none 0 0, .iface 70 (.int .i64 5)]))) ∧ Below w.heap.size w w' := by
  have HI : Hid (∀ W, Below w.heap.size w W → IsEdges W v l) := fun W hW => hI.below hW (Nat.le_refl _)
  have hl := gchk_len hc
  have HD : Hid (∀ e ∈ l, (1 ≤ e.1 ∧ e.1 ≤ 6) ∧ (1 ≤ e.2 ∧ e.2 ≤ 6)) := gchk_deal hc
  go_enter Try.func18, Try.ntmps18
  go_wp2_with fail
  refine (gcheck_ok l _ _ hI hc).mono ?_
  rintro e w1 ⟨rfl, hb1⟩
  clear hc hI
  go_wp2_with fail
  refine (stepsOf_any l _ _ (HI.out _ hb1) HD.out hl).mono ?_
  rintro e w2 ⟨rfl, hb2⟩
  have hb02 := hb1.trans (hb2.mono hb1.size)
  have HN2 : Hid (w.heap.size ≤ w2.heap.size) := hb02.size
  clear hb1 hb2
  go_wp2_with (refine wpList_store_row rfl 94 (.tmp 5) (.tmp 14) rfl w2.heap.size (cells49 (stepsS l)) rfl rfl 94 (cells49 fun _ _ => false) (mat_fresh w2 _ rfl) (mat_info' _) (by rw [cells49_size, cells49_size]) (cells49_one _) ?_)
  go_loopw [6] (fun v6 wr => ∃ n : Nat, 1 ≤ n ∧ n ≤ 7 ∧ v6 = .int .i64 n ∧ MatAt wr w2.heap.size (stepsS l) ∧ Below w.heap.size w wr ∧ (∀ j, 1 ≤ j → j < n → growF (stepsS l) j [] = none)) (fun v6 _ => 7 - (intOf v6).toNat)
  case atStart => exact ⟨1, by omega, by omega, rfl, setRow_heap _ _ _ _ _ _ (mat_fresh w2 _ rfl), below_setRow (hb02.alloc hb02.size _) HN2.out _, fun j h1 h2 => absurd h1 (by omega)⟩
  case round =>
    clear hb02
    obtain ⟨n, hn1, hn7, rfl, hm, hbel, hno⟩ := hrel
    have HM : Hid (MatAt wr w2.heap.size (stepsS l)) := hm
    have hml := hm.lt
    have HNO : Hid (∀ j, 1 ≤ j → j < n → growF (stepsS l) j [] = none) := hno
    clear hm hno
    by_cases hlt : n < 7
    · have hn6 : (n : Int) ≤ 6 := by omega
      go_wp2_with (refine wpList_load_row rfl 94 (.tmp 5) rfl w2.heap.size rfl 94 (cells49 (stepsS l)) (0, 0) _ HM.out Try.underlying94 rfl (mat_info' _) ?_)
      refine (ringOf_any n (stepsS l) _ hn1 (by omega)).mono ?_
      rintro e w3 ⟨v3, r3, rfl, hor, hI3, hb3⟩
      have HI3 : Hid (IsInts w3 v3 (r3.map fun (k : Nat) => (k : Int))) := hI3
      obtain ⟨ad3, b3, off3, cap3, hv3, -⟩ := hI3
      subst hv3
      rw [List.length_map] at HI3 ⊢
      have hb03 := hbel.trans (hb3.mono hbel.size)
      rcases hor with hs | ⟨hs, hr3⟩
      · have HR : Hid (ringL l = some r3) := ring_hit hn1 (by omega) hs HNO.out
        have hlen := growF_some n [] r3 hs
        have hpos : (0 : Int) < (r3.length : Int) := by simp at hlen; omega
        clear hs hlen
        go_wp2_with fail
        go_ret2
        exact ⟨.inl ⟨r3, _, HR.out, rfl, HI3.out⟩, hb03⟩
      · have HS : Hid (growF (stepsS l) n [] = none) := hs
        subst hr3
        clear hs
        go_wp2_with fail
        go_roundw
        case rel =>
          refine ⟨n + 1, by omega, by omega, by go_num, HM.out.below hb3 hml, hb03, fun j h1 h2 => ?_⟩
          rcases Nat.lt_or_ge j n with h | h
          · exact HNO.out j h1 h
          · rw [show j = n by omega]; exact HS.out
        case measure => simp [intOf]; omega
    · have hn6 : ¬ (n : Int) ≤ 6 := by omega
      have HR : Hid (ringL l = none) := ring_none fun j h1 h2 => HNO.out j h1 (by omega)
      go_wp2_with fail
      go_ret2
      exact ⟨.inr ⟨HR.out, rfl⟩, hbel⟩
end Go.Proofs.Ytgnbejemhdcemac
