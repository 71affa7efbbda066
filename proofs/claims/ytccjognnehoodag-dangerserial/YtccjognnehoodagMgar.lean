/-
  PROVED HERE: how a table of locks (two lists in rows of its own) lies in memory, and what of it stands when only some blocks have turned.
  Conditions: none.
  PROVED HERE: lanelaw2.seen gives what a deal saw of an outcome; lanelaw2.right says yes where an outcome's deals ask to commit, each once. Old memory stays as it was.
  Conditions: the lists are short.
-/
import Derived.Test.YtccjognnehoodagMgai
import Derived.Test.YtccjognnehoodagMgah
import Derived.Test.YtccjognnehoodagMgac
import Derived.Test.YtccjognnehoodagMgal
import Derived.OwnWalk
import Derived.Laws.Rows
import Derived.Test.YtccjognnehoodagMgag
import Derived.Test.YtccjognnehoodagMgaq
import Derived.BigQuiet
import Derived.Deep.QuietTactic
import Derived.Deep.Cut
namespace Go.Proofs.Ytccjognnehoodag
open Go.RowKit

/-- Of the blocks that there were, only those of F have turned. -/
structure Turns (F : Nat → Prop) (w w' : World) : Prop where
  os : w'.os = w.os
  tape : w'.tape = w.tape
  output : w'.output = w.output
  size : w.heap.size ≤ w'.heap.size
  block : ∀ k, k < w.heap.size → ¬ F k → w'.heap[k]? = w.heap[k]?
theorem Turns.refl (F : Nat → Prop) (w : World) : Turns F w w := ⟨rfl, rfl, rfl, Nat.le_refl _, fun _ _ _ => rfl⟩
theorem Turns.trans {F G : Nat → Prop} {w w1 w2 : World} (h : Turns F w w1) (k : Turns G w1 w2) (hG : ∀ j, j < w.heap.size → G j → F j) : Turns F w w2 :=
  ⟨k.os.trans h.os, k.tape.trans h.tape, k.output.trans h.output, Nat.le_trans h.size k.size, fun j h1 h2 => (k.block j (Nat.lt_of_lt_of_le h1 h.size) (fun hg => h2 (hG j h1 hg))).trans (h.block j h1 h2)⟩
theorem Turns.of_below {F : Nat → Prop} {w w' : World} (h : Below w.heap.size w w') : Turns F w w' := ⟨h.os, h.tape, h.output, h.size, fun k hk _ => h.block k hk⟩
theorem Turns.below {F : Nat → Prop} {B : Nat} {w w' : World} (h : Turns F w w') (hB : B ≤ w.heap.size) (hF : ∀ k, k < B → ¬ F k) : Below B w w' := ⟨h.os, h.tape, h.output, h.size, fun k hk => h.block k (Nat.lt_of_lt_of_le hk hB) (hF k hk)⟩
theorem Turns.then_below {F : Nat → Prop} {w w1 w2 : World} (h : Turns F w w1) (k : Below w1.heap.size w1 w2) : Turns F w w2 := h.trans (Turns.of_below (F := fun _ => False) k) fun _ _ hf => hf.elim
theorem Turns.drew {F : Nat → Prop} {w w1 : World} (h : Turns F w w1) : Turns F w w1.drew := ⟨h.os, h.tape, h.output, h.size, h.block⟩
theorem Turns.alloc {F : Nat → Prop} {w w1 : World} (h : Turns F w w1) (o : Obj) : Turns F w (w1.alloc o) := h.then_below ((Below.refl _ w1).alloc (Nat.le_refl _) o)
theorem Turns.setCell {F : Nat → Prop} {w w1 : World} (h : Turns F w w1) {p : Addr} (hp : F p.block ∨ w.heap.size ≤ p.block) (u : Value) : Turns F w (w1.setCell p u) := by
  refine ⟨h.os, h.tape, h.output, by simpa using h.size, fun k h1 h2 => ?_⟩
  have hne : k ≠ p.block := by
    intro e
    rcases hp with hp | hp
    · exact h2 (e ▸ hp)
    · omega
  exact (Below.heap_setCell w1 p u k hne).trans (h.block k h1 h2)
theorem Turns.grown {F : Nat → Prop} {w w1 w2 : World} {row : Option Nat} (h : Turns F w w1) (hg : w1.grownBy w2 row) (hr : ∀ k, row = some k → F k ∨ w.heap.size ≤ k) : Turns F w w2 :=
  ⟨hg.os.trans h.os, hg.tape.trans h.tape, hg.output.trans h.output, Nat.le_trans h.size hg.size, fun k h1 h2 => (hg.block k (Nat.lt_of_lt_of_le h1 h.size) (fun e => by
    rcases hr k e.symm with hp | hp
    · exact h2 hp
    · omega)).trans (h.block k h1 h2)⟩
theorem Turns.mono {F G : Nat → Prop} {w w1 : World} (h : Turns F w w1) (hF : ∀ k, k < w.heap.size → F k → G k) : Turns G w w1 := ⟨h.os, h.tape, h.output, h.size, fun k h1 h2 => h.block k h1 fun hf => h2 (hF k h1 hf)⟩
theorem Turns.cell {F : Nat → Prop} {w w1 : World} (h : Turns F w w1) {p : Addr} (hp : p.block < w.heap.size) (hF : ¬ F p.block) : w1.cell? p = w.cell? p := World.cell?_of_block (w := w) (h.block p.block hp hF)
/-- What is owned stays owned where its own block does not turn. -/
theorem Turns.own {F : Nat → Prop} {w w1 : World} {base e size n : Nat} {v : Value} {xs : List Value} (h : Turns F w w1) (ho : w.ownsRow base e size v n xs) (hF : ∀ g, v.ownBlock = some g → ¬ F g) : w1.ownsRow base e size v n xs := by
  have h' := ho
  obtain ⟨hl, hd | ⟨g, cap, cur, hv, hbg, hg, hn, hm, hsz, htk⟩⟩ := ho
  · exact ⟨hl, .inl hd⟩
  · refine ⟨hl, .inr ⟨g, cap, cur, hv, hbg, ?_, hn, hm, hsz, htk⟩⟩
    rw [h.block g (h'.lt g (by rw [hv]; rfl)).2 (hF g (by rw [hv]; rfl))]; exact hg
theorem own_less {w : World} {base base2 e size n : Nat} {v : Value} {xs : List Value} (h : w.ownsRow base e size v n xs) (hb : base2 ≤ base) : w.ownsRow base2 e size v n xs := by
  obtain ⟨hl, hd | ⟨g, cap, cur, hv, hbg, hg, hn, hm, hsz, htk⟩⟩ := h
  · exact ⟨hl, .inl hd⟩
  · exact ⟨hl, .inr ⟨g, cap, cur, hv, Nat.le_trans hb hbg, hg, hn, hm, hsz, htk⟩⟩
theorem isOps_row {w : World} {base e n : Nat} {v : Value} {l : List Op3} (h : w.ownsRow base e 3 v n (flat l)) (hl : l.length = n) : IsOps w v l := by
  have h' := h
  obtain ⟨hx, ⟨hv, hd⟩ | ⟨g, cap, cur, hv, hb, hg, hn, hm, hsz, htk⟩⟩ := h'
  · have : l = [] := List.length_eq_zero_iff.1 (by omega)
    subst this
    rw [hv]
    exact ⟨none, 0, 0, 0, rfl, fun h => absurd h (by simp), fun _ => ⟨rfl, rfl⟩, .inr rfl, fun i hi => by simp at hi⟩
  · refine ⟨some ⟨g, 0, none⟩, g, 0, cap, by rw [hl]; exact hv, fun _ => rfl, fun h => (by simp at h), .inl (h.lt g (by rw [hv]; rfl)).2, opsAt_of fun j u hj => ?_⟩
    have := h.cells (g := g) (by rw [hv]; rfl) j u hj
    rw [Addr.add_lit] at this
    exact this
theorem own_slice3 {w : World} {base e size n : Nat} {v : Value} {xs : List Value} (h : w.ownsRow base e size v n xs) : ∃ ad c, v = .slice ad n c ∧ (0 < n → ∃ g, ad = some ⟨g, 0, none⟩ ∧ base ≤ g ∧ g < w.heap.size ∧ ∀ k, w.frozen? ⟨g, k, none⟩ = false) := by
  have h' := h
  obtain ⟨_, ⟨hv, h0⟩ | ⟨g, c, cur, hv, hb, hg, _⟩⟩ := h
  · exact ⟨none, 0, by rw [hv, h0], fun hp => absurd hp (by omega)⟩
  · exact ⟨_, c, hv, fun _ => ⟨g, rfl, hb, (h'.lt g (by rw [hv]; rfl)).2, fun k => by simp [World.frozen?, hg]⟩⟩
theorem flat_set : ∀ (l : List Op3) (k : Nat) (x : Op3), k < l.length → flat (l.set k x) = (((flat l).set (k * 3) (.int .i64 x.1)).set (k * 3 + 1) (.int .i64 x.2.1)).set (k * 3 + 2) (.int .i64 x.2.2) := by
  intro l
  induction l with
  | nil => intro k x h; simp at h
  | cons y r ih =>
    intro k x h
    cases k with
    | zero => simp [flat]
    | succ k =>
      rw [List.set_cons_succ, flat, ih k x (by simpa using h), show (k + 1) * 3 = k * 3 + 3 by omega]
      simp [flat]
/-- A lock is put into the place of another one. -/
theorem own_put3 {w : World} {base e n c g : Nat} {l : List Op3} (h : w.ownsRow base e 3 (.slice (some ⟨g, 0, none⟩) n c) n (flat l)) (hl : l.length = n) {k : Nat} (hk : k < n) (x : Op3) :
    (((w.setCell ⟨g, k * 3, none⟩ (.int .i64 x.1)).setCell ⟨g, k * 3 + 1, none⟩ (.int .i64 x.2.1)).setCell ⟨g, k * 3 + 2, none⟩ (.int .i64 x.2.2)).ownsRow base e 3 (.slice (some ⟨g, 0, none⟩) n c) n (flat (l.set k x)) := by
  obtain ⟨hx, ⟨hv, _⟩ | ⟨g2, c2, cur, hv, hb, hg, hn, hm, hsz, htk⟩⟩ := h
  · cases hv
  · simp only [Value.slice.injEq, Option.some.injEq, Addr.mk.injEq, and_true, true_and] at hv
    obtain ⟨rfl, rfl⟩ := hv
    refine ⟨by rw [flat_length, List.length_set, hl], .inr ⟨g, c, ((cur.setIfInBounds (k * 3) (.int .i64 x.1)).setIfInBounds (k * 3 + 1) (.int .i64 x.2.1)).setIfInBounds (k * 3 + 2) (.int .i64 x.2.2), rfl, hb, ?_, hn, hm, by simpa using hsz, ?_⟩⟩
    · unfold World.setCell
      simp [Array.getElem?_modify, hg]
    · rw [flat_set l k x (by omega), ← htk]
      simp only [Array.toList_setIfInBounds, List.take_set]
theorem holdL_at {l : List Op3} {x : Op3} : ∀ {k : Nat}, k < l.length → (∀ j, j < k → likeL (opAt l j) x = false) → likeL (opAt l k) x = true → holdL l x = l.set k x := by
  induction l with
  | nil => intro k hk; simp at hk
  | cons y r ih =>
    intro k hk hno hyes
    cases k with
    | zero =>
      unfold holdL
      rw [if_pos (by simpa [opAt, List.getD] using hyes)]
      rfl
    | succ k =>
      have h0 := hno 0 (by omega)
      unfold holdL
      rw [if_neg (by simpa [opAt, List.getD] using h0), List.set_cons_succ, ih (by simpa using hk) (fun j hj => by simpa [opAt, List.getD] using hno (j + 1) (by omega)) (by simpa [opAt, List.getD] using hyes)]
theorem holdL_end {l : List Op3} {x : Op3} (h : ∀ j, j < l.length → likeL (opAt l j) x = false) : holdL l x = l ++ [x] := by
  induction l with
  | nil => rfl
  | cons y r ih =>
    have h0 := h 0 (by simp)
    unfold holdL
    rw [if_neg (by simpa [opAt, List.getD] using h0), ih fun j hj => by simpa [opAt, List.getD] using h (j + 1) (by simpa using hj)]
    rfl
/-- The blocks of a table. -/
def foot (T : Nat) (hv wv : Value) (k : Nat) : Prop := k = T ∨ hv.ownBlock = some k ∨ wv.ownBlock = some k
/-- The two slices of a table, put into a block's cells. -/
def put2 (cs : Array Value) (o : Nat) (hv wv : Value) : Array Value := (cs.setIfInBounds o hv).setIfInBounds (o + 1) wv
theorem put2_size (cs : Array Value) (o : Nat) (hv wv : Value) : (put2 cs o hv wv).size = cs.size := by simp [put2]
theorem put2_at (cs : Array Value) (o : Nat) (hv wv : Value) (k : Nat) : (put2 cs o hv wv)[k]? = if k = o + 1 then (if o + 1 < cs.size then some wv else none) else if k = o then (if o < cs.size then some hv else none) else cs[k]? := by
  unfold put2
  rw [Array.getElem?_setIfInBounds, Array.getElem?_setIfInBounds, Array.size_setIfInBounds]
  by_cases h1 : k = o + 1
  · subst h1; simp
  · by_cases h2 : k = o
    · subst h2; simp
    · rw [if_neg (fun e => h1 e.symm), if_neg (fun e => h2 e.symm), if_neg h1, if_neg h2]
theorem put2_put2 (cs : Array Value) (o : Nat) (a b c d : Value) : put2 (put2 cs o a b) o c d = put2 cs o c d := by
  refine Array.ext_getElem? fun k => ?_
  rw [put2_at, put2_at, put2_at, put2_size]
  split
  · rfl
  · split <;> rfl
theorem put2_same {cs : Array Value} {o : Nat} {hv wv : Value} (h0 : cs[o]? = some hv) (h1 : cs[o + 1]? = some wv) : put2 cs o hv wv = cs := by
  refine Array.ext_getElem? fun k => ?_
  have l0 := (Array.getElem?_eq_some_iff.1 h0).1
  have l1 := (Array.getElem?_eq_some_iff.1 h1).1
  rw [put2_at, if_pos l1, if_pos l0]
  split
  · rename_i e; simp [e, h1]
  · split
    · rename_i e; simp [e, h0]
    · rfl
theorem put2_0 {cs : Array Value} {o : Nat} {wv : Value} (v : Value) (h1 : cs[o + 1]? = some wv) : cs.setIfInBounds o v = put2 cs o v wv := by
  refine Array.ext_getElem? fun k => ?_
  have l1 := (Array.getElem?_eq_some_iff.1 h1).1
  rw [put2_at, Array.getElem?_setIfInBounds]
  by_cases h2 : k = o + 1
  · subst h2
    rw [if_neg (by omega), if_pos rfl, if_pos l1, h1]
  · by_cases h3 : k = o
    · subst h3; simp
    · rw [if_neg (fun e => h3 e.symm), if_neg h2, if_neg h3]
theorem put2_1 {cs : Array Value} {o : Nat} {hv : Value} (v : Value) (h0 : cs[o]? = some hv) : cs.setIfInBounds (o + 1) v = put2 cs o hv v := by
  refine Array.ext_getElem? fun k => ?_
  have l0 := (Array.getElem?_eq_some_iff.1 h0).1
  rw [put2_at, Array.getElem?_setIfInBounds]
  by_cases h2 : k = o + 1
  · subst h2; simp
  · rw [if_neg (fun e => h2 e.symm), if_neg h2]
    by_cases h3 : k = o
    · subst h3
      rw [if_pos rfl, if_pos l0, h0]
    · rw [if_neg h3]
section
variable {w w1 : World} {F : Nat → Prop} {ty : TypeId} {T o : Nat} {cs : Array Value} {hv wv v : Value} {s : Tab2}
theorem at_put0 {a b : Value} (h : o + 1 < cs.size) : (put2 cs o a b)[o]? = some a := by rw [put2_at, if_neg (by omega), if_pos rfl, if_pos (by omega)]
theorem at_put1 {a b : Value} (h : o + 1 < cs.size) : (put2 cs o a b)[o + 1]? = some b := by rw [put2_at, if_pos rfl, if_pos h]
theorem block_set {k : Nat} {u : Value} (h : w.heap[T]? = some (.cells cs ty (0, 0))) : (w.setCell ⟨T, k, none⟩ u).heap[T]? = some (.cells (cs.setIfInBounds k u) ty (0, 0)) := by
  unfold World.setCell
  simp [Array.getElem?_modify, h]
/-- Behind an append to a row. -/
theorem turn_grown {w2 : World} {obj : Obj} (hgr : (w.drew.alloc obj).grownBy w2 hv.ownBlock) : Turns (fun k => hv.ownBlock = some k) w w2 :=
  ((Turns.refl _ w).drew.alloc obj).grown hgr fun _ hk => .inl hk
end
end Go.Proofs.Ytccjognnehoodag

namespace Go.Proofs.Ytccjognnehoodag
open Go.RowKit

theorem hid_s {p : Prop} (h : p) : Hid p := h
theorem infoSeenS : (Try.prog.info? 60).map (fun i => (i.zero, i.size, i.bytes)) = some (some (.agg #[.int .i64 0, .int .i64 0, .int .i64 0]), 3, 24) := by kernel_rfl
theorem seen_one (w : World) (t a i : Int) : ∀ j u, (flat [(t, a, i)])[j]? = some u → (w.alloc (.cells #[.int .i64 t, .int .i64 a, .int .i64 i] 60)).cell? ((⟨w.heap.size, 0, none⟩ : Addr).add j) = some u := by
  intro j u hj
  rw [Addr.add_lit]
  rcases j with _ | _ | _ | j
  · simpa [flat] using hj
  · simpa [flat] using hj
  · simpa [flat] using hj
  · simp [flat] at hj
set_option maxHeartbeats 4000000 in
set_option maxRecDepth 100000 in
theorem seen_own (l : List Op3) (a1 v a3 : Value) (tx : Int) (w : World) (hI : IsOps w v l) (hlen : l.length ≤ 1000) (hs1 : ∃ ad n c, a1 = .slice ad n c) (hs3 : ∃ ad n c, a3 = .slice ad n c) :
    Calls Try.prog 43 #[.agg #[a1, v, a3], .int .i64 tx] w fun e w' => ∃ v', e = .returned v' ∧ w'.ownsRow w.heap.size 60 3 v' (l.filter (fun o : Op3 => o.1 == tx)).length (flat (l.filter (fun o : Op3 => o.1 == tx))) ∧ Below w.heap.size w w' := by
  obtain ⟨ad, b, off, cap, rfl, ha, hn, hbB, hops⟩ := hI
  obtain ⟨x1, y1, z1, rfl⟩ := hs1
  obtain ⟨x3, y3, z3, rfl⟩ := hs3
  clear hn
  obtain ⟨i0, hi, hz0, hs0, hy0⟩ := info_parts infoSeenS
  have HI : Hid (Try.prog.info? 60 = some i0 ∧ i0.zero = some (.agg #[.int .i64 0, .int .i64 0, .int .i64 0]) ∧ i0.size = 3 ∧ i0.bytes = 24) := ⟨hi, hz0, hs0, hy0⟩
  have HP : Hid (∀ W, Below (w.heap.size + 1) (w.alloc (.cells #[.slice x1 y1 z1, .slice ad l.length cap, .slice x3 y3 z3] 28)) W → W.cell? ⟨w.heap.size, 1, none⟩ = some (.slice ad l.length cap)) := fun W hW => by
    rw [hW.cell (p := ⟨w.heap.size, 1, none⟩) (by simp)]
    simp
  have HB0 : Hid (Below w.heap.size w (w.alloc (.cells #[.slice x1 y1 z1, .slice ad l.length cap, .slice x3 y3 z3] 28))) := (Below.refl _ w).alloc (Nat.le_refl _) _
  obtain ⟨W0, hW0⟩ : ∃ W, W = w.alloc (.cells #[.slice x1 y1 z1, .slice ad l.length cap, .slice x3 y3 z3] 28) := ⟨_, rfl⟩
  rw [← hW0] at HP HB0
  have hsz0 : W0.heap.size = w.heap.size + 1 := by rw [hW0]; simp
  rw [← hsz0] at HP
  obtain ⟨P, hP⟩ : ∃ P, P = w.heap.size := ⟨_, rfl⟩
  rw [← hP] at HP
  have HPE := hid_s hP
  clear hi hz0 hs0 hy0
  go_enter Try.func43, Try.ntmps43
  go_upto_region 2 with (fail)
  rw [← hW0, ← hP]
  clear hW0 hP hsz0
  go_wp2_with fail
  go_loopw [5, 6] (fun x1 x2 wr => ∃ k : Nat, k ≤ l.length ∧ x2 = .int .i64 k ∧ wr.ownsRow W0.heap.size 60 3 x1 ((l.take k).filter (fun o : Op3 => o.1 == tx)).length (flat ((l.take k).filter (fun o : Op3 => o.1 == tx))) ∧ Below W0.heap.size W0 wr) (fun _ x2 _ => l.length - (intOf x2).toNat)
  case atStart => exact ⟨0, Nat.zero_le _, rfl, World.ownsRow_nil _ _ _ _, Below.refl _ _⟩
  case round =>
    obtain ⟨k, hk, rfl, hown, hbel⟩ := hrel
    have hsz := hbel.size
    have hbw : Below w.heap.size w wr := HB0.out.trans (hbel.mono HB0.out.size)
    have cP := HP.out wr hbel
    by_cases hlt : k < l.length
    · obtain rfl := ha (by omega)
      have hlt' : (k : Int) < (l.length : Int) := by omega
      have hb1 : b < w.heap.size := by
        rcases hbB with h | h
        · exact h
        · subst h; simp at hlt
      obtain ⟨c0, c1, c2⟩ := (hops.below hbw (.inl hb1)) k hlt
      obtain ⟨⟨t, a, i⟩, ho⟩ : ∃ o : Op3, l.getD k (0, 0, 0) = o := ⟨_, rfl⟩
      rw [ho] at c0 c1 c2
      have HT : Hid (l.take (k + 1) = l.take k ++ [(t, a, i)]) := by
        show l.take (k + 1) = l.take k ++ [(t, a, i)]
        rw [List.take_succ_eq_append_getElem hlt, ← ho]; simp [List.getD, List.getElem?_eq_getElem hlt]
      have hkl := take_len (fun o : Op3 => o.1 == tx) l k
      clear ho hops ha hbB hbw
      simp only at c0 c1 c2
      obtain ⟨n, hn⟩ : ∃ n, ((l.take k).filter (fun o : Op3 => o.1 == tx)).length = n := ⟨_, rfl⟩
      have HN : Hid (((l.take k).filter (fun o : Op3 => o.1 == tx)).length = n) := hn
      rw [hn] at hown hkl
      have HOWN : Hid (wr.ownsRow W0.heap.size 60 3 u5 n (flat ((l.take k).filter (fun o : Op3 => o.1 == tx)))) := hown
      have HBL := hid_s hbel
      clear hn hown hbel
      cases hq : (fun o : Op3 => o.1 == tx) (t, a, i) with
      | false =>
        have HQ : Hid ((fun o : Op3 => o.1 == tx) (t, a, i) = false) := hq
        have hq' : (t == tx) = false := hq
        clear hq
        go_wp2_with (fail)
        go_roundw
        case rel => exact ⟨k + 1, by omega, by go_num, by rw [filter_drop (q := (fun o : Op3 => o.1 == tx)) HT.out HQ.out, HN.out]; exact HOWN.out, HBL.out⟩
        case measure => simp [intOf]; omega
      | true =>
        have HQ : Hid ((fun o : Op3 => o.1 == tx) (t, a, i) = true) := hq
        have hq' : (t == tx) = true := hq
        clear hq
        go_wp2_with (at_builtin; refine wpList_append_own _ rfl (.tmp 22) (.tmp 28) 26 rfl W0.heap.size 60 i0 (.agg #[.int .i64 0, .int .i64 0, .int .i64 0]) 3 24 Try.underlying26 HI.out.1 HI.out.2.1 HI.out.2.2.1 HI.out.2.2.2 rfl (by decide) u5 n (flat ((l.take k).filter (fun o : Op3 => o.1 == tx))) rfl (HOWN.out.alloc _) ⟨wr.heap.size, 0, none⟩ 1 1 (flat [(t, a, i)]) rfl rfl (seen_one _ t a i) (flat_one _) (by unfold maxLen; omega) (by omega) (by simp; omega) ?_; intro v1 w1 hown1 hgr1 hnil1)
        have hB1 := (HBL.out.alloc hsz _).grown hgr1 (by simp; omega) (fun m hm => (HOWN.out.lt m hm).1)
        go_roundw
        case rel => exact ⟨k + 1, by omega, by go_num, by rw [filter_keep (q := (fun o : Op3 => o.1 == tx)) HT.out HQ.out, List.length_append, HN.out, flat_append]; exact hown1, hB1⟩
        case measure => simp [intOf]; omega
    · have hlt' : ¬ (k : Int) < (l.length : Int) := by omega
      have HF : Hid (wr.ownsRow w.heap.size 60 3 u5 (l.filter (fun o : Op3 => o.1 == tx)).length (flat (l.filter (fun o : Op3 => o.1 == tx)))) := by
        show World.ownsRow _ _ _ _ _ _ _
        rw [List.take_of_length_le (by omega)] at hown
        exact own_less hown HB0.out.size
      have HBW := hid_s hbw
      obtain ⟨ad5, c5, rfl, -⟩ := own_slice3 hown
      clear hown hbel hbw
      go_wp2_with fail
      go_ret
      exact ⟨_, rfl, HF.out, HBW.out⟩
/-- Of whom an outcome tells. -/
def RightB (l : List Op3) (ds : List Int) : Prop := ds.Nodup ∧ ∀ t ∈ ds, endOf l t = 3
set_option maxHeartbeats 4000000 in
set_option maxRecDepth 100000 in
theorem right_any (l : List Op3) (v a1 a2 a3 : Value) (ds la : List Int) (w : World) (hI : IsOps w v l) (hlen : l.length ≤ 1000) (h1 : IsInts w a1 ds) (h3 : IsInts w a3 la) (hs2 : ∃ ad n c, a2 = .slice ad n c) (hroom : Room a1) (hl6 : ds.length ≤ 6) (hla : la.length = 6) (hr : RightB l ds) :
    Calls Try.prog 13 #[v, .agg #[a1, a2, a3]] w fun e w' => e = .returned (.bool true) ∧ Below w.heap.size w w' := by
  have HEN : Hid (∀ W, Below w.heap.size w W → ∀ t, Calls Try.prog 10 #[v, .int .i64 t, .int .i64 l.length] W fun e w' => e = .returned (.int .i64 (endOf l t)) ∧ w' = W) := fun W hW t => end_v l v t W (hI.below hW (Nat.le_refl _)) (by omega)
  have HI1 := hid_s h1
  obtain ⟨ad, b, off, cap, hv1, ha, hn1, hbB, hc⟩ := h1
  subst hv1
  obtain ⟨x3, y3, o3, z3, hv3, -⟩ := h3
  subst hv3
  obtain ⟨x2, y2, z2, rfl⟩ := hs2
  rw [hla]
  obtain ⟨ad0, b0, off0, cap0, hv0, -⟩ := hI
  subst hv0
  have HRB := hid_s hr
  obtain ⟨W0, hW0⟩ : ∃ W, W = w.alloc (.cells #[.slice ad ds.length cap, .slice x2 y2 z2, .slice x3 6 z3] 28) := ⟨_, rfl⟩
  have HB0 : Hid (Below w.heap.size w W0) := by show Below _ _ _; rw [hW0]; exact (Below.refl _ w).alloc (Nat.le_refl _) _
  have c0 : W0.cell? ⟨w.heap.size, 0, none⟩ = some (.slice ad ds.length cap) := by rw [hW0]; simp
  have c2 : W0.cell? ⟨w.heap.size, 2, none⟩ = some (.slice x3 6 z3) := by rw [hW0]; simp
  have HCE : Hid (∀ k, k < ds.length → ad = some ⟨b, off, none⟩ ∧ W0.cell? ⟨b, off + k, none⟩ = some (.int .i64 (ds.getD k 0))) := fun k hk => by
    have hb1 : b < w.heap.size := by
      rcases hbB with h | h
      · exact h
      · subst h; simp at hk
    exact ⟨ha (by omega), (HB0.out.cell (p := ⟨b, off + k, none⟩) hb1).trans (hc k hk)⟩
  have HTK : Hid (∀ k, k < ds.length → IsInts W0 (.slice ad k cap) (ds.take k)) := fun k hk => by
    have hb1 : b < w.heap.size := by
      rcases hbB with h | h
      · exact h
      · subst h; simp at hk
    have hkl : (ds.take k).length = k := by simp; omega
    refine ⟨ad, b, off, cap, by rw [hkl], fun _ => ha (by omega), fun h => ?_, .inl (Nat.lt_of_lt_of_le hb1 HB0.out.size), fun i hi => ?_⟩
    · rw [ha (by omega)] at h; cases h
    · rw [hkl] at hi
      rw [(HCE.out i (by omega)).2]
      simp [List.getD, hi]
  obtain ⟨P, hP⟩ : ∃ P, P = w.heap.size := ⟨_, rfl⟩
  rw [← hP] at c0 c2
  obtain ⟨dl, hdl⟩ : ∃ n, ds.length = n := ⟨_, rfl⟩
  have HDL := hid_s hdl
  rw [hdl] at c0 HCE HTK hl6 hW0
  rw [hdl]
  have hl6' : (dl : Int) ≤ 6 := by omega
  have hcp : dl ≤ cap := by
    obtain ⟨_, _, _, he, hle⟩ := hroom
    simp only [Value.slice.injEq] at he
    omega
  clear hbB hc ha hr hdl
  go_enter Try.func13, Try.ntmps13
  go_upto_region 1 with (fail)
  rw [← hW0, ← hP]
  clear hW0 hP
  go_wp2_with fail
  go_loopw [5] (fun v5 wr => ∃ k n : Nat, k ≤ dl ∧ v5 = .int .i64 k ∧ wr = W0.drewN n) (fun v5 _ => dl - (intOf v5).toNat)
  case atStart => exact ⟨0, 0, Nat.zero_le _, rfl, rfl⟩
  case round =>
    obtain ⟨k, n, hk, rfl, hwr⟩ := hrel
    have HWE := hid_s hwr
    have k0 : wr.cell? ⟨P, 0, none⟩ = some (.slice ad dl cap) := by rw [hwr]; exact c0
    have k2 : wr.cell? ⟨P, 2, none⟩ = some (.slice x3 6 z3) := by rw [hwr]; exact c2
    have HBW : Hid (Below w.heap.size w wr) := by show Below _ _ _; rw [hwr]; exact below_drewN HB0.out _
    by_cases hlt : k < dl
    · have hlt' : (k : Int) < (dl : Int) := by omega
      have hk0 : (0 : Int) ≤ (k : Int) := by omega
      have hkn : ¬ (k : Int) < 0 := by omega
      have hkle : (k : Int) ≤ (cap : Int) := by omega
      have hkle' : k ≤ cap := by omega
      obtain ⟨rfl, ce⟩ := HCE.out k hlt
      have ck : wr.cell? ⟨b, off + k, none⟩ = some (.int .i64 (ds.getD k 0)) := by rw [hwr]; exact ce
      have HIN : Hid (∀ m, Calls Try.prog 9 #[.slice (some ⟨b, off, none⟩) k cap, .int .i64 (ds.getD k 0)] (wr.drewN m) fun e w' => e = .returned (.bool (inB (ds.take k) (ds.getD k 0))) ∧ w' = wr.drewN m) := fun m => by
        refine in_any (ds.take k) _ _ _ ?_ (by simp; omega)
        rw [hwr]
        exact (HTK.out k hlt).below (below_drewN (below_drewN (Below.refl W0.heap.size W0) _) _) (Nat.le_refl _)
      have hnin : inB (ds.take k) (ds.getD k 0) = false := by
        have hkd : k < ds.length := by rw [HDL.out]; exact hlt
        have hnd := HRB.out.1
        have h9 : ds.getD k 0 = ds[k] := by simp [List.getD, List.getElem?_eq_getElem hkd]
        rw [h9]
        cases hb : inB (ds.take k) ds[k] with
        | false => rfl
        | true =>
          exfalso
          have hm : ds[k] ∈ ds.take k := by unfold inB at hb; simpa using hb
          have h8 : (ds.take (k + 1)).Nodup := hnd.sublist (List.take_sublist _ _)
          rw [List.take_succ_eq_append_getElem hkd, List.nodup_append] at h8
          exact h8.2.2 _ hm _ (List.mem_singleton.2 rfl) rfl
      have hend : endOf l (ds.getD k 0) = 3 := HRB.out.2 _ (by rw [List.getD_eq_getElem?_getD, List.getElem?_eq_getElem (by rw [HDL.out]; exact hlt)]; exact List.getElem_mem _)
      rw [hnin] at HIN
      obtain ⟨d, hd⟩ : ∃ d, ds.getD k 0 = d := ⟨_, rfl⟩
      rw [hd] at ck HIN hend
      have HEC : Hid (∀ W, Below w.heap.size w W → Calls Try.prog 10 #[.slice ad0 l.length cap0, .int .i64 d, .int .i64 l.length] W fun e w' => e = .returned (.int .i64 3) ∧ w' = W) := fun W hW => by
        have := HEN.out W hW d
        rw [hend] at this
        exact this
      clear hd hnin hend ce hwr
      go_upto_region 4 with (fail)
      go_quiet (first | (go_at_call 9; refine Calls.quiet_of_same (HIN.out _)))
      have HB4 : Hid (Below w.heap.size w (wr.drewN nq)) := below_drewN HBW.out _
      have HW4 : Hid (∃ m, wr.drewN nq = W0.drewN m) := ⟨n + nq, by rw [HWE.out, World.drewN_drewN]⟩
      obtain ⟨W4, hQ⟩ : ∃ Z : World, Z = wr.drewN nq := ⟨_, rfl⟩
      replace k0 : W4.cell? ⟨P, 0, none⟩ = some (.slice (some ⟨b, off, none⟩) dl cap) := by rw [hQ]; exact k0
      replace k2 : W4.cell? ⟨P, 2, none⟩ = some (.slice x3 6 z3) := by rw [hQ]; exact k2
      replace ck : W4.cell? ⟨b, off + k, none⟩ = some (.int .i64 d) := by rw [hQ]; exact ck
      rw [← hQ] at HB4 HW4 ⊢
      clear hQ HIN
      go_wp2_with fail
      refine (HEC.out W4 HB4.out).mono ?_
      rintro e w5 ⟨rfl, hw5⟩
      rw [hw5]
      clear hw5
      go_wp2_with fail
      go_roundw
      case rel =>
        obtain ⟨m, hm⟩ := HW4.out
        exact ⟨k + 1, m, by omega, by go_num, hm⟩
      case measure => simp [intOf]; omega
    · have hlt' : ¬ (k : Int) < (dl : Int) := by omega
      clear hwr
      go_wp2_with fail
      go_ret
      exact ⟨rfl, HBW.out⟩
end Go.Proofs.Ytccjognnehoodag
