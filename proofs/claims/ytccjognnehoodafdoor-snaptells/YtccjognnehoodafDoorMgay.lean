/-
  PROVED HERE: how a table of locks (two lists in rows of its own) lies in memory, and what of it stands when only some blocks have turned.
  Conditions: none.
  PROVED HERE: lanelaw2.tells says yes of an outcome and an error that are what chapters 11 to 14, as functions on lists, tell, over whatever keeps RefC and RefOutC. Old memory stays as it was.
  Conditions: RefC, RefOutC; the variable errors.errorType holds the handle of the type error.
-/
import Derived.Test.YtccjognnehoodafDoorMgai
import Derived.Test.YtccjognnehoodafDoorMgah
import Derived.Test.YtccjognnehoodafDoorMgae
import Derived.Test.YtccjognnehoodafDoorMgal
import Derived.OwnWalk
import Derived.Laws.Rows
import Derived.Test.YtccjognnehoodafDoorMgav
import Derived.Test.YtccjognnehoodafDoorMgat
import Derived.Test.YtccjognnehoodafDoorMgaw
import Derived.Test.YtccjognnehoodafDoorMgax
import Derived.BigQuiet
namespace Go.Proofs.YtccjognnehoodafDoor
open Go.RowKit

/-- Of the blocks that there were, only those of F have turned. -/
structure Turns (F : Nat → Prop) (w w' : World) : Prop where
  os : w'.os = w.os
  tape : w'.tape = w.tape
  output : w'.output = w.output
  size : w.heap.size ≤ w'.heap.size
  block : ∀ k, k < w.heap.size → ¬ F k → w'.heap[k]? = w.heap[k]?
theorem Turns.refl (F : Nat → Prop) (w : World) : Turns F w w := ⟨rfl, rfl, rfl, Nat.le_refl _, fun _ _ _ => rfl⟩
theorem Turns.trans {F G : Nat → Prop} {w w1 w2 : World} (h : Turns F w w1) (k : Turns G w1 w2) (hG : ∀ j, j < w.heap.size → G j → F j) : Turns F w w2 :=
  ⟨k.os.trans h.os, k.tape.trans h.tape, k.output.trans h.output, Nat.le_trans h.size k.size, fun j h1 h2 => (k.block j (Nat.lt_of_lt_of_le h1 h.size) (fun hg => h2 (hG j h1 hg))).trans (h.block j h1 h2)⟩
theorem Turns.of_below {F : Nat → Prop} {w w' : World} (h : Below w.heap.size w w') : Turns F w w' := ⟨h.os, h.tape, h.output, h.size, fun k hk _ => h.block k hk⟩
theorem Turns.below {F : Nat → Prop} {B : Nat} {w w' : World} (h : Turns F w w') (hB : B ≤ w.heap.size) (hF : ∀ k, k < B → ¬ F k) : Below B w w' := ⟨h.os, h.tape, h.output, h.size, fun k hk => h.block k (Nat.lt_of_lt_of_le hk hB) (hF k hk)⟩
theorem Turns.then_below {F : Nat → Prop} {w w1 w2 : World} (h : Turns F w w1) (k : Below w1.heap.size w1 w2) : Turns F w w2 := h.trans (Turns.of_below (F := fun _ => False) k) fun _ _ hf => hf.elim
theorem Turns.drew {F : Nat → Prop} {w w1 : World} (h : Turns F w w1) : Turns F w w1.drew := ⟨h.os, h.tape, h.output, h.size, h.block⟩
theorem Turns.alloc {F : Nat → Prop} {w w1 : World} (h : Turns F w w1) (o : Obj) : Turns F w (w1.alloc o) := h.then_below ((Below.refl _ w1).alloc (Nat.le_refl _) o)
theorem Turns.setCell {F : Nat → Prop} {w w1 : World} (h : Turns F w w1) {p : Addr} (hp : F p.block ∨ w.heap.size ≤ p.block) (u : Value) : Turns F w (w1.setCell p u) := by
  refine ⟨h.os, h.tape, h.output, by simpa using h.size, fun k h1 h2 => ?_⟩
  have hne : k ≠ p.block := by
    intro e
    rcases hp with hp | hp
    · exact h2 (e ▸ hp)
    · omega
  exact (Below.heap_setCell w1 p u k hne).trans (h.block k h1 h2)
theorem Turns.grown {F : Nat → Prop} {w w1 w2 : World} {row : Option Nat} (h : Turns F w w1) (hg : w1.grownBy w2 row) (hr : ∀ k, row = some k → F k ∨ w.heap.size ≤ k) : Turns F w w2 :=
  ⟨hg.os.trans h.os, hg.tape.trans h.tape, hg.output.trans h.output, Nat.le_trans h.size hg.size, fun k h1 h2 => (hg.block k (Nat.lt_of_lt_of_le h1 h.size) (fun e => by
    rcases hr k e.symm with hp | hp
    · exact h2 hp
    · omega)).trans (h.block k h1 h2)⟩
theorem Turns.mono {F G : Nat → Prop} {w w1 : World} (h : Turns F w w1) (hF : ∀ k, k < w.heap.size → F k → G k) : Turns G w w1 := ⟨h.os, h.tape, h.output, h.size, fun k h1 h2 => h.block k h1 fun hf => h2 (hF k h1 hf)⟩
theorem Turns.cell {F : Nat → Prop} {w w1 : World} (h : Turns F w w1) {p : Addr} (hp : p.block < w.heap.size) (hF : ¬ F p.block) : w1.cell? p = w.cell? p := World.cell?_of_block (w := w) (h.block p.block hp hF)
/-- What is owned stays owned where its own block does not turn. -/
theorem Turns.own {F : Nat → Prop} {w w1 : World} {base e size n : Nat} {v : Value} {xs : List Value} (h : Turns F w w1) (ho : w.ownsRow base e size v n xs) (hF : ∀ g, v.ownBlock = some g → ¬ F g) : w1.ownsRow base e size v n xs := by
  have h' := ho
  obtain ⟨hl, hd | ⟨g, cap, cur, hv, hbg, hg, hn, hm, hsz, htk⟩⟩ := ho
  · exact ⟨hl, .inl hd⟩
  · refine ⟨hl, .inr ⟨g, cap, cur, hv, hbg, ?_, hn, hm, hsz, htk⟩⟩
    rw [h.block g (h'.lt g (by rw [hv]; rfl)).2 (hF g (by rw [hv]; rfl))]; exact hg
theorem own_less {w : World} {base base2 e size n : Nat} {v : Value} {xs : List Value} (h : w.ownsRow base e size v n xs) (hb : base2 ≤ base) : w.ownsRow base2 e size v n xs := by
  obtain ⟨hl, hd | ⟨g, cap, cur, hv, hbg, hg, hn, hm, hsz, htk⟩⟩ := h
  · exact ⟨hl, .inl hd⟩
  · exact ⟨hl, .inr ⟨g, cap, cur, hv, Nat.le_trans hb hbg, hg, hn, hm, hsz, htk⟩⟩
theorem isOps_row {w : World} {base e n : Nat} {v : Value} {l : List Op3} (h : w.ownsRow base e 3 v n (flat l)) (hl : l.length = n) : IsOps w v l := by
  have h' := h
  obtain ⟨hx, ⟨hv, hd⟩ | ⟨g, cap, cur, hv, hb, hg, hn, hm, hsz, htk⟩⟩ := h'
  · have : l = [] := List.length_eq_zero_iff.1 (by omega)
    subst this
    rw [hv]
    exact ⟨none, 0, 0, 0, rfl, fun h => absurd h (by simp), fun _ => ⟨rfl, rfl⟩, .inr rfl, fun i hi => by simp at hi⟩
  · refine ⟨some ⟨g, 0, none⟩, g, 0, cap, by rw [hl]; exact hv, fun _ => rfl, fun h => (by simp at h), .inl (h.lt g (by rw [hv]; rfl)).2, opsAt_of fun j u hj => ?_⟩
    have := h.cells (g := g) (by rw [hv]; rfl) j u hj
    rw [Addr.add_lit] at this
    exact this
theorem own_slice3 {w : World} {base e size n : Nat} {v : Value} {xs : List Value} (h : w.ownsRow base e size v n xs) : ∃ ad c, v = .slice ad n c ∧ (0 < n → ∃ g, ad = some ⟨g, 0, none⟩ ∧ base ≤ g ∧ g < w.heap.size ∧ ∀ k, w.frozen? ⟨g, k, none⟩ = false) := by
  have h' := h
  obtain ⟨_, ⟨hv, h0⟩ | ⟨g, c, cur, hv, hb, hg, _⟩⟩ := h
  · exact ⟨none, 0, by rw [hv, h0], fun hp => absurd hp (by omega)⟩
  · exact ⟨_, c, hv, fun _ => ⟨g, rfl, hb, (h'.lt g (by rw [hv]; rfl)).2, fun k => by simp [World.frozen?, hg]⟩⟩
theorem flat_set : ∀ (l : List Op3) (k : Nat) (x : Op3), k < l.length → flat (l.set k x) = (((flat l).set (k * 3) (.int .i64 x.1)).set (k * 3 + 1) (.int .i64 x.2.1)).set (k * 3 + 2) (.int .i64 x.2.2) := by
  intro l
  induction l with
  | nil => intro k x h; simp at h
  | cons y r ih =>
    intro k x h
    cases k with
    | zero => simp [flat]
    | succ k =>
      rw [List.set_cons_succ, flat, ih k x (by simpa using h), show (k + 1) * 3 = k * 3 + 3 by omega]
      simp [flat]
/-- A lock is put into the place of another one. -/
theorem own_put3 {w : World} {base e n c g : Nat} {l : List Op3} (h : w.ownsRow base e 3 (.slice (some ⟨g, 0, none⟩) n c) n (flat l)) (hl : l.length = n) {k : Nat} (hk : k < n) (x : Op3) :
    (((w.setCell ⟨g, k * 3, none⟩ (.int .i64 x.1)).setCell ⟨g, k * 3 + 1, none⟩ (.int .i64 x.2.1)).setCell ⟨g, k * 3 + 2, none⟩ (.int .i64 x.2.2)).ownsRow base e 3 (.slice (some ⟨g, 0, none⟩) n c) n (flat (l.set k x)) := by
  obtain ⟨hx, ⟨hv, _⟩ | ⟨g2, c2, cur, hv, hb, hg, hn, hm, hsz, htk⟩⟩ := h
  · cases hv
  · simp only [Value.slice.injEq, Option.some.injEq, Addr.mk.injEq, and_true, true_and] at hv
    obtain ⟨rfl, rfl⟩ := hv
    refine ⟨by rw [flat_length, List.length_set, hl], .inr ⟨g, c, ((cur.setIfInBounds (k * 3) (.int .i64 x.1)).setIfInBounds (k * 3 + 1) (.int .i64 x.2.1)).setIfInBounds (k * 3 + 2) (.int .i64 x.2.2), rfl, hb, ?_, hn, hm, by simpa using hsz, ?_⟩⟩
    · unfold World.setCell
      simp [Array.getElem?_modify, hg]
    · rw [flat_set l k x (by omega), ← htk]
      simp only [Array.toList_setIfInBounds, List.take_set]
theorem holdL_at {l : List Op3} {x : Op3} : ∀ {k : Nat}, k < l.length → (∀ j, j < k → likeL (opAt l j) x = false) → likeL (opAt l k) x = true → holdL l x = l.set k x := by
  induction l with
  | nil => intro k hk; simp at hk
  | cons y r ih =>
    intro k hk hno hyes
    cases k with
    | zero =>
      unfold holdL
      rw [if_pos (by simpa [opAt, List.getD] using hyes)]
      rfl
    | succ k =>
      have h0 := hno 0 (by omega)
      unfold holdL
      rw [if_neg (by simpa [opAt, List.getD] using h0), List.set_cons_succ, ih (by simpa using hk) (fun j hj => by simpa [opAt, List.getD] using hno (j + 1) (by omega)) (by simpa [opAt, List.getD] using hyes)]
theorem holdL_end {l : List Op3} {x : Op3} (h : ∀ j, j < l.length → likeL (opAt l j) x = false) : holdL l x = l ++ [x] := by
  induction l with
  | nil => rfl
  | cons y r ih =>
    have h0 := h 0 (by simp)
    unfold holdL
    rw [if_neg (by simpa [opAt, List.getD] using h0), ih fun j hj => by simpa [opAt, List.getD] using h (j + 1) (by simpa using hj)]
    rfl
/-- The blocks of a table. -/
def foot (T : Nat) (hv wv : Value) (k : Nat) : Prop := k = T ∨ hv.ownBlock = some k ∨ wv.ownBlock = some k
/-- The two slices of a table, put into a block's cells. -/
def put2 (cs : Array Value) (o : Nat) (hv wv : Value) : Array Value := (cs.setIfInBounds o hv).setIfInBounds (o + 1) wv
theorem put2_size (cs : Array Value) (o : Nat) (hv wv : Value) : (put2 cs o hv wv).size = cs.size := by simp [put2]
theorem put2_at (cs : Array Value) (o : Nat) (hv wv : Value) (k : Nat) : (put2 cs o hv wv)[k]? = if k = o + 1 then (if o + 1 < cs.size then some wv else none) else if k = o then (if o < cs.size then some hv else none) else cs[k]? := by
  unfold put2
  rw [Array.getElem?_setIfInBounds, Array.getElem?_setIfInBounds, Array.size_setIfInBounds]
  by_cases h1 : k = o + 1
  · subst h1; simp
  · by_cases h2 : k = o
    · subst h2; simp
    · rw [if_neg (fun e => h1 e.symm), if_neg (fun e => h2 e.symm), if_neg h1, if_neg h2]
theorem put2_put2 (cs : Array Value) (o : Nat) (a b c d : Value) : put2 (put2 cs o a b) o c d = put2 cs o c d := by
  refine Array.ext_getElem? fun k => ?_
  rw [put2_at, put2_at, put2_at, put2_size]
  split
  · rfl
  · split <;> rfl
theorem put2_same {cs : Array Value} {o : Nat} {hv wv : Value} (h0 : cs[o]? = some hv) (h1 : cs[o + 1]? = some wv) : put2 cs o hv wv = cs := by
  refine Array.ext_getElem? fun k => ?_
  have l0 := (Array.getElem?_eq_some_iff.1 h0).1
  have l1 := (Array.getElem?_eq_some_iff.1 h1).1
  rw [put2_at, if_pos l1, if_pos l0]
  split
  · rename_i e; simp [e, h1]
  · split
    · rename_i e; simp [e, h0]
    · rfl
theorem put2_0 {cs : Array Value} {o : Nat} {wv : Value} (v : Value) (h1 : cs[o + 1]? = some wv) : cs.setIfInBounds o v = put2 cs o v wv := by
  refine Array.ext_getElem? fun k => ?_
  have l1 := (Array.getElem?_eq_some_iff.1 h1).1
  rw [put2_at, Array.getElem?_setIfInBounds]
  by_cases h2 : k = o + 1
  · subst h2
    rw [if_neg (by omega), if_pos rfl, if_pos l1, h1]
  · by_cases h3 : k = o
    · subst h3; simp
    · rw [if_neg (fun e => h3 e.symm), if_neg h2, if_neg h3]
theorem put2_1 {cs : Array Value} {o : Nat} {hv : Value} (v : Value) (h0 : cs[o]? = some hv) : cs.setIfInBounds (o + 1) v = put2 cs o hv v := by
  refine Array.ext_getElem? fun k => ?_
  have l0 := (Array.getElem?_eq_some_iff.1 h0).1
  rw [put2_at, Array.getElem?_setIfInBounds]
  by_cases h2 : k = o + 1
  · subst h2; simp
  · rw [if_neg (fun e => h2 e.symm), if_neg h2]
    by_cases h3 : k = o
    · subst h3
      rw [if_pos rfl, if_pos l0, h0]
    · rw [if_neg h3]
section
variable {w w1 : World} {F : Nat → Prop} {ty : TypeId} {T o : Nat} {cs : Array Value} {hv wv v : Value} {s : Tab2}
theorem at_put0 {a b : Value} (h : o + 1 < cs.size) : (put2 cs o a b)[o]? = some a := by rw [put2_at, if_neg (by omega), if_pos rfl, if_pos (by omega)]
theorem at_put1 {a b : Value} (h : o + 1 < cs.size) : (put2 cs o a b)[o + 1]? = some b := by rw [put2_at, if_pos rfl, if_pos h]
theorem block_set {k : Nat} {u : Value} (h : w.heap[T]? = some (.cells cs ty (0, 0))) : (w.setCell ⟨T, k, none⟩ u).heap[T]? = some (.cells (cs.setIfInBounds k u) ty (0, 0)) := by
  unfold World.setCell
  simp [Array.getElem?_modify, h]
/-- Behind an append to a row. -/
theorem turn_grown {w2 : World} {obj : Obj} (hgr : (w.drew.alloc obj).grownBy w2 hv.ownBlock) : Turns (fun k => hv.ownBlock = some k) w w2 :=
  ((Turns.refl _ w).drew.alloc obj).grown hgr fun _ hk => .inl hk
end
end Go.Proofs.YtccjognnehoodafDoor

namespace Go.Proofs.YtccjognnehoodafDoor
open Go.RowKit

theorem hid_k {p : Prop} (h : p) : Hid p := h
theorem kErr_any (n : Int) (w : World) (hg : EtAt w) : Calls Tryd.prog 12 #[errV n, .int .i64 n] w fun e w' => e = .returned (.bool true) ∧ Below w.heap.size w w' := by
  by_cases h : n = 0
  · subst h
    exact (error_nil 0 w).mono fun _ _ ⟨he, hw⟩ => ⟨he, by rw [hw]; exact Below.refl _ _⟩
  · rw [errV_ne h]
    exact (error_hit n n w hg).mono fun _ _ ⟨he, hb⟩ => ⟨by rw [he]; simp, hb⟩
/-- An outcome in a block of its own. -/
def OutBx (w : World) (P : Nat) (a1 a2 a3 : Value) : Prop := w.cell? ⟨P, 0, none⟩ = some a1 ∧ w.cell? ⟨P, 1, none⟩ = some a2 ∧ w.cell? ⟨P, 2, none⟩ = some a3
theorem OutBx.below {w w1 : World} {P : Nat} {a1 a2 a3 : Value} (h : OutBx w P a1 a2 a3) (hb : Below w.heap.size w w1) : OutBx w1 P a1 a2 a3 := by
  have hl := World.block_lt_of_cell? w _ h.1
  exact ⟨(hb.cell (p := ⟨P, 0, none⟩) hl).trans h.1, (hb.cell (p := ⟨P, 1, none⟩) hl).trans h.2.1, (hb.cell (p := ⟨P, 2, none⟩) hl).trans h.2.2⟩
theorem IsInts.beside {w w1 : World} {v : Value} {l : List Int} {X : Nat} (h : IsInts w v l) (hX : ∀ q n, w.cell? ⟨X, q, none⟩ ≠ some (.int .i64 n)) (ht : Turns (fun j => j = X) w w1) : IsInts w1 v l := by
  obtain ⟨ad, b, off, cap, hv, ha, hn, hbB, hc⟩ := h
  refine ⟨ad, b, off, cap, hv, ha, hn, hbB.imp (fun h => Nat.lt_of_lt_of_le h ht.size) id, fun i hi => ?_⟩
  have h1 := hc i hi
  have hne : ¬ b = X := fun e => hX _ _ (e ▸ h1)
  exact (ht.cell (p := ⟨b, off + i, none⟩) (World.block_lt_of_cell? w _ h1) hne).trans h1
theorem IsOps.beside {w w1 : World} {v : Value} {l : List Op3} {X : Nat} (h : IsOps w v l) (hX : ∀ q n, w.cell? ⟨X, q, none⟩ ≠ some (.int .i64 n)) (ht : Turns (fun j => j = X) w w1) : IsOps w1 v l := by
  obtain ⟨ad, b, off, cap, hv, ha, hn, hbB, hc⟩ := h
  refine ⟨ad, b, off, cap, hv, ha, hn, hbB.imp (fun h => Nat.lt_of_lt_of_le h ht.size) id, fun i hi => ?_⟩
  obtain ⟨h0, h1, h2⟩ := hc i hi
  have hne : ¬ b = X := fun e => hX _ _ (e ▸ h0)
  exact ⟨(ht.cell (p := ⟨b, off + i * 3, none⟩) (World.block_lt_of_cell? w _ h0) hne).trans h0, (ht.cell (p := ⟨b, off + i * 3 + 1, none⟩) (World.block_lt_of_cell? w _ h1) hne).trans h1, (ht.cell (p := ⟨b, off + i * 3 + 2, none⟩) (World.block_lt_of_cell? w _ h2) hne).trans h2⟩
set_option maxHeartbeats 8000000 in
set_option maxRecDepth 100000 in
theorem tells_any {kind : Int} {okF : Kst → Int → Dl → Bool} {byN : Bool} (hk : (kind == 4) = byN) (hR : RefC kind okF) (hO : RefOutC byN) (l : List Op3) (v : Value) (a1 a2 a3 : Value) (w : World) (hI : IsOps w v l) (hg : EtAt w)
    (h1 : IsInts w a1 (outU kind okF byN l).1.1) (h2 : IsOps w a2 (outU kind okF byN l).1.2.1) (h3 : IsInts w a3 (outU kind okF byN l).1.2.2) :
    Calls Tryd.prog 6 #[v, .int .i64 kind, .agg #[a1, a2, a3], errV (outU kind okF byN l).2] w fun e w' => e = .returned (.bool true) ∧ Below w.heap.size w w' := by
  have HIE : Hid (∀ W, Below w.heap.size w W → IsOps W v l ∧ EtAt W) := fun W hW => ⟨hI.below hW (Nat.le_refl _), hg.below hW hg.lt⟩
  have hul := outU_len kind okF byN l
  obtain ⟨⟨⟨ds, se, la⟩, n⟩, hu⟩ : ∃ u, outU kind okF byN l = u := ⟨_, rfl⟩
  rw [hu] at hul h1 h2 h3 ⊢
  simp only at hul h1 h2 h3 ⊢
  have HA : Hid (∀ W, Below w.heap.size w W → IsInts W a1 ds ∧ IsOps W a2 se ∧ IsInts W a3 la) := fun W hW => ⟨h1.below hW (Nat.le_refl _), h2.below hW (Nat.le_refl _), h3.below hW (Nat.le_refl _)⟩
  have HRR : Hid (∀ W, Below w.heap.size w W → Calls Tryd.prog 7 #[v] W fun e w' => e = .returned (.int .i64 (chk l).2) ∧ Below W.heap.size W w') := fun W hW => refRight_any l _ W (HIE.out W hW).1
  have HER : Hid (∀ W, Below w.heap.size w W → Calls Tryd.prog 12 #[errV n, .int .i64 n] W fun e w' => e = .returned (.bool true) ∧ Below W.heap.size W w') := fun W hW => kErr_any n W (HIE.out W hW).2
  have HST : Hid (∀ W W', Below w.heap.size w W → Below W.heap.size W W' → Below w.heap.size w W') := fun W W' g1 g2 => g1.trans (g2.mono g1.size)
  obtain ⟨p1, q1, s1, rfl⟩ : ∃ ad n c, a1 = .slice ad n c := by obtain ⟨ad, _, _, cap, hv, _⟩ := h1; exact ⟨ad, _, cap, hv⟩
  obtain ⟨p2, q2, s2, rfl⟩ : ∃ ad n c, a2 = .slice ad n c := by obtain ⟨ad, _, _, cap, hv, _⟩ := h2; exact ⟨ad, _, cap, hv⟩
  obtain ⟨p3, q3, s3, rfl⟩ : ∃ ad n c, a3 = .slice ad n c := by obtain ⟨ad, _, _, cap, hv, _⟩ := h3; exact ⟨ad, _, cap, hv⟩
  obtain ⟨ad, b0, off, cap, hv, -⟩ := hI
  subst hv
  have HU := hid_k hu
  have HUL := hid_k hul
  obtain ⟨ce, hce⟩ : ∃ ce, (chk l).2 = ce := ⟨_, rfl⟩
  rw [hce] at HRR
  have HCE := hid_k hce
  have HBO : Hid (OutBx (w.alloc (.cells #[.slice p1 q1 s1, .slice p2 q2 s2, .slice p3 q3 s3] 26)) w.heap.size (.slice p1 q1 s1) (.slice p2 q2 s2) (.slice p3 q3 s3)) := by
    refine ⟨?_, ?_, ?_⟩ <;> simp
  have HBB : Hid (Below w.heap.size w (w.alloc (.cells #[.slice p1 q1 s1, .slice p2 q2 s2, .slice p3 q3 s3] 26))) := (Below.refl _ w).alloc (Nat.le_refl _) _
  have HKB := hid_k hk
  have HREF := hid_k hR
  have HOUT := hid_k hO
  clear hg hR hO hu hul hce h1 h2 h3 hk
  go_enter Tryd.func6, Tryd.ntmps6
  go_upto_region 1 with (fail)
  obtain ⟨W, hW⟩ : ∃ W, W = w.alloc (.cells #[.slice p1 q1 s1, .slice p2 q2 s2, .slice p3 q3 s3] 26) := ⟨_, rfl⟩
  rw [← hW] at HBO HBB ⊢
  obtain ⟨P, hP⟩ : ∃ P, P = w.heap.size := ⟨_, rfl⟩
  rw [← hP] at HBO ⊢
  have HPE := hid_k hP
  clear hW hP
  go_wp2_with fail
  refine (HRR.out _ HBB.out).mono ?_
  rintro e w1 ⟨rfl, hb1⟩
  have HB1 := hid_k (HST.out _ _ HBB.out hb1)
  have HO1 := hid_k (HBO.out.below hb1)
  clear hb1 HBO HBB
  go_upto_region 3 with (fail)
  obtain ⟨W1, hW1⟩ : ∃ W, W = w1.alloc (.cells #[.slice none 0 0, .slice none 0 0, .slice none 0 0] 26) := ⟨_, rfl⟩
  rw [← hW1]
  obtain ⟨X, hX⟩ : ∃ X, X = w1.heap.size := ⟨_, rfl⟩
  rw [← hX]
  have hbn : Below w1.heap.size w1 W1 := by rw [hW1]; exact (Below.refl _ w1).alloc (Nat.le_refl _) _
  have HO2 := hid_k (HO1.out.below hbn)
  have HB2 := hid_k (HST.out _ _ HB1.out hbn)
  have hXb : W1.heap[X]? = some (.cells #[.slice none 0 0, .slice none 0 0, .slice none 0 0] 26 (0, 0)) := by rw [hW1, hX]; exact heap_alloc_new w1 _
  have HXB := hid_k hXb
  have HXP : Hid (w.heap.size ≤ X ∧ X ≠ P) := ⟨by rw [hX]; exact HB1.out.size, by have := World.block_lt_of_cell? w1 _ HO1.out.1; simp only at this; omega⟩
  clear hW1 hX hbn HB1 HO1 hXb
  by_cases hc : ce = 0
  · have HOK : Hid ((chk l).2 = 0) := HCE.out.trans hc
    obtain ⟨s, hs⟩ : ∃ s, runK kind okF l l.length = s := ⟨_, rfl⟩
    have he := HU.out
    rw [outU_ok HOK.out, hs] at he
    simp only [Prod.mk.injEq] at he
    obtain ⟨⟨hds, hse, hla⟩, rfl⟩ := he
    have HRUN : Hid (Calls Tryd.prog 8 #[.slice ad l.length cap, .int .i64 kind] W1 fun e w' => ∃ v', e = .returned v' ∧ IsDeals w' v' s.done s.of ∧ Below W1.heap.size W1 w') := by
      have h5 := HREF.out l _ W1 (HIE.out _ HB2.out).1 HOK.out
      rw [hs] at h5
      exact h5
    have HOU : Hid (∀ W v', IsDeals W v' s.done s.of → Calls Tryd.prog 18 #[v', .bool byN] W fun e w' => ∃ a1 a2 a3, e = .returned (.agg #[a1, a2, a3]) ∧ IsInts w' a1 ds ∧ IsOps w' a2 se ∧ IsInts w' a3 la ∧ Below W.heap.size W w') := fun W v' hW => by
      have hko := run_kOk kind okF HOK.out l.length (Nat.le_refl _)
      have hle := (kst_len kind okF l l.length).1
      have hit := kst_items kind okF ((chk_iff l).1 HOK.out).2.1 l.length (Nat.le_refl _)
      have h40 := chk_len HOK.out
      rw [hs] at hko hle hit
      have h5 := HOUT.out s.done s.of v' W hW hko.once (fun t ht => ⟨(hko.comm t ht).2.1, (hko.comm t ht).2.2.1⟩) (fun t => by have := hle t; omega) hit
      rw [hse, hla, hds] at h5
      exact h5
    have hev : errV 0 = .nilIface := rfl
    rw [hev] at HER ⊢
    have hkb : (kind == 4) = byN := HKB.out
    subst hc
    clear hev HU hs hds hse hla HREF HOUT
    go_wp2_with fail
    refine HRUN.out.mono ?_
    rintro e w2 ⟨v2, rfl, hd2, hb2⟩
    obtain ⟨x1, y1, z1, rfl⟩ : ∃ ad n c, v2 = .slice ad n c := by obtain ⟨ad, _, _, cap, hv, _⟩ := hd2; exact ⟨ad, _, cap, hv⟩
    have HD2 := hid_k hd2
    have HBb := hid_k hb2
    clear hd2 hb2
    go_wp2_with fail
    refine (HOU.out _ _ HD2.out).mono ?_
    rintro e w3 ⟨b1, b2, b3, rfl, hi1, hi2, hi3, hb3⟩
    obtain ⟨c1, c2, c3, rfl⟩ : ∃ ad n c, b1 = .slice ad n c := by obtain ⟨ad, _, _, cap, hv, _⟩ := hi1; exact ⟨ad, _, cap, hv⟩
    obtain ⟨d1, d2, d3, rfl⟩ : ∃ ad n c, b2 = .slice ad n c := by obtain ⟨ad, _, _, cap, hv, _⟩ := hi2; exact ⟨ad, _, cap, hv⟩
    obtain ⟨f1, f2, f3, rfl⟩ : ∃ ad n c, b3 = .slice ad n c := by obtain ⟨ad, _, _, cap, hv, _⟩ := hi3; exact ⟨ad, _, cap, hv⟩
    have hb13 : Below W1.heap.size W1 w3 := HBb.out.trans (hb3.mono HBb.out.size)
    have hX3 : w3.heap[X]? = some (.cells #[.slice none 0 0, .slice none 0 0, .slice none 0 0] 26 (0, 0)) := (hb13.block X (Array.getElem?_eq_some_iff.1 HXB.out).1).trans HXB.out
    have k0 : w3.cell? ⟨X, 0, none⟩ = some (.slice none 0 0) := by rw [cell_of_row w3 X _ _ _ _ hX3]; rfl
    have k1 : w3.cell? ⟨X, 1, none⟩ = some (.slice none 0 0) := by rw [cell_of_row w3 X _ _ _ _ hX3]; rfl
    have k2 : w3.cell? ⟨X, 2, none⟩ = some (.slice none 0 0) := by rw [cell_of_row w3 X _ _ _ _ hX3]; rfl
    have y0 : w3.frozen? ⟨X, 0, none⟩ = false := by simp [World.frozen?, hX3]
    have y1 : w3.frozen? ⟨X, 1, none⟩ = false := by simp [World.frozen?, hX3]
    have y2 : w3.frozen? ⟨X, 2, none⟩ = false := by simp [World.frozen?, hX3]
    have HI3 : Hid (Below w.heap.size w w3 ∧ OutBx w3 P (.slice p1 q1 s1) (.slice p2 q2 s2) (.slice p3 q3 s3) ∧ IsInts w3 (.slice c1 c2 c3) ds ∧ IsOps w3 (.slice d1 d2 d3) se ∧ IsInts w3 (.slice f1 f2 f3) la) := ⟨HST.out _ _ HB2.out hb13, HO2.out.below hb13, hi1, hi2, hi3⟩
    have HTU : Hid (Turns (fun j => j = X) w3 (((w3.setCell ⟨X, 0, none⟩ (.slice c1 c2 c3)).setCell ⟨X, 1, none⟩ (.slice d1 d2 d3)).setCell ⟨X, 2, none⟩ (.slice f1 f2 f3)) ∧ (((w3.setCell ⟨X, 0, none⟩ (.slice c1 c2 c3)).setCell ⟨X, 1, none⟩ (.slice d1 d2 d3)).setCell ⟨X, 2, none⟩ (.slice f1 f2 f3)).heap[X]? = some (.cells #[.slice c1 c2 c3, .slice d1 d2 d3, .slice f1 f2 f3] 26 (0, 0))) := by
      refine ⟨?_, by rw [block_set (block_set (block_set hX3))]; rfl⟩
      refine Turns.setCell (Turns.setCell (Turns.setCell (Turns.refl _ w3) ?_ _) ?_ _) ?_ _ <;> exact .inl rfl
    have HNI : Hid (∀ q n, w3.cell? ⟨X, q, none⟩ ≠ some (.int .i64 n)) := fun q n => by
      rw [cell_of_row w3 X _ _ _ _ hX3]
      rcases q with _ | _ | _ | q <;> simp
    clear hi1 hi2 hi3 hb3 hb13 hX3 HRUN HOU HD2 HBb
    go_upto_region 5 with (fail)
    obtain ⟨X3, hX3⟩ : ∃ Z, Z = ((w3.setCell ⟨X, 0, none⟩ (.slice c1 c2 c3)).setCell ⟨X, 1, none⟩ (.slice d1 d2 d3)).setCell ⟨X, 2, none⟩ (.slice f1 f2 f3) := ⟨_, rfl⟩
    rw [← hX3] at HTU ⊢
    have HFX : Hid (Below w.heap.size w X3 ∧ OutBx X3 P (.slice p1 q1 s1) (.slice p2 q2 s2) (.slice p3 q3 s3) ∧ IsInts X3 (.slice c1 c2 c3) ds ∧ IsOps X3 (.slice d1 d2 d3) se ∧ IsInts X3 (.slice f1 f2 f3) la ∧ OutBx X3 X (.slice c1 c2 c3) (.slice d1 d2 d3) (.slice f1 f2 f3)) := by
      obtain ⟨g1, g2, g3, g4, g5⟩ := HI3.out
      have hPl := World.block_lt_of_cell? w3 _ g2.1
      have hPX : ¬ P = X := fun e => HXP.out.2 e.symm
      refine ⟨g1.trans (HTU.out.1.below g1.size fun j hj e => by have := HXP.out.1; omega), ⟨(HTU.out.1.cell (p := ⟨P, 0, none⟩) hPl hPX).trans g2.1, (HTU.out.1.cell (p := ⟨P, 1, none⟩) hPl hPX).trans g2.2.1, (HTU.out.1.cell (p := ⟨P, 2, none⟩) hPl hPX).trans g2.2.2⟩, g3.beside HNI.out HTU.out.1, g4.beside HNI.out HTU.out.1, g5.beside HNI.out HTU.out.1, ?_⟩
      refine ⟨?_, ?_, ?_⟩ <;> rw [cell_of_row X3 X _ _ _ _ HTU.out.2] <;> rfl
    clear hX3 HTU HNI HI3 k0 k1 k2 y0 y1 y2
    go_wp2_with fail
    refine (HER.out _ HFX.out.1).mono ?_
    rintro e wE ⟨rfl, hqE⟩
    have HBE := hid_k (HST.out _ _ HFX.out.1 hqE)
    obtain ⟨g0, g1, g2⟩ := HFX.out.2.1.below hqE
    obtain ⟨m0, m1, m2⟩ := HFX.out.2.2.2.2.2.below hqE
    have HSO : Hid (Calls Tryd.prog 19 #[.agg #[.slice p1 q1 s1, .slice p2 q2 s2, .slice p3 q3 s3], .agg #[.slice c1 c2 c3, .slice d1 d2 d3, .slice f1 f2 f3]] wE fun e w' => e = .returned (.bool true) ∧ Below wE.heap.size wE w') := by
      obtain ⟨r1, r2, r3⟩ := HA.out wE HBE.out
      obtain ⟨t1, t2, t3⟩ := HUL.out
      exact same_outcome ds se la _ _ _ _ _ _ wE r1 r2 r3 (HFX.out.2.2.1.below hqE (Nat.le_refl _)) (HFX.out.2.2.2.1.below hqE (Nat.le_refl _)) (HFX.out.2.2.2.2.1.below hqE (Nat.le_refl _)) (by omega) (by omega) (by omega)
    clear hqE
    go_wp2_with fail
    refine HSO.out.mono ?_
    rintro e wF ⟨rfl, hqF⟩
    have HBF := hid_k (HST.out _ _ HBE.out hqF)
    clear hqF
    go_wp2_with fail
    go_ret
    exact ⟨rfl, HBF.out⟩
  · have he := HU.out
    rw [outU_bad (by rw [HCE.out]; exact hc), HCE.out] at he
    simp only [Prod.mk.injEq] at he
    obtain ⟨⟨rfl, rfl, rfl⟩, rfl⟩ := he
    have hev : errV ce = .iface 75 (.int .i64 ce) := errV_ne hc
    rw [hev] at HER ⊢
    have hcb : (ce == 0) = false := by simpa using hc
    have HXO : Hid (OutBx W1 X (.slice none 0 0) (.slice none 0 0) (.slice none 0 0)) := by
      refine ⟨?_, ?_, ?_⟩ <;> rw [cell_of_row W1 X _ _ _ _ HXB.out] <;> rfl
    clear hev HU HREF HOUT
    go_wp2_with fail
    refine (HER.out _ HB2.out).mono ?_
    rintro e wE ⟨rfl, hqE⟩
    have HBE := hid_k (HST.out _ _ HB2.out hqE)
    obtain ⟨g0, g1, g2⟩ := HO2.out.below hqE
    obtain ⟨m0, m1, m2⟩ := HXO.out.below hqE
    have HSO : Hid (Calls Tryd.prog 19 #[.agg #[.slice p1 q1 s1, .slice p2 q2 s2, .slice p3 q3 s3], .agg #[.slice none 0 0, .slice none 0 0, .slice none 0 0]] wE fun e w' => e = .returned (.bool true) ∧ Below wE.heap.size wE w') := by
      obtain ⟨r1, r2, r3⟩ := HA.out wE HBE.out
      exact same_outcome [] [] [] _ _ _ _ _ _ wE r1 r2 r3 (isInts_nil _) (isOps_nil _) (isInts_nil _) (by simp) (by simp) (by simp)
    clear hqE
    go_wp2_with fail
    refine HSO.out.mono ?_
    rintro e wF ⟨rfl, hqF⟩
    have HBF := hid_k (HST.out _ _ HBE.out hqF)
    clear hqF
    go_wp2_with fail
    go_ret
    exact ⟨rfl, HBF.out⟩
end Go.Proofs.YtccjognnehoodafDoor
