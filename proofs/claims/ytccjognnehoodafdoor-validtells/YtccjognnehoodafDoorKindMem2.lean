/-
  PROVED HERE: steps of a run of deals in memory (laneref2.Run): a deal begins; something is looked at; what is laid into the array of deals; boxes beside it.
  Conditions: none.
-/
import Derived.Test.YtccjognnehoodafDoorKindMem
namespace Go.Proofs.YtccjognnehoodafDoor
open Go.RowKit

theorem setF_setF {α : Type} (f : Int → α) (t : Int) (x y : α) : setF (setF f t x) t y = setF f t y := funext fun j => by
  unfold setF
  split <;> rfl
theorem setF_id {α : Type} {f : Int → α} {t : Int} {x : α} (h : f t = x) : setF f t x = f := funext fun j => by
  unfold setF
  split
  · rename_i e; rw [e, h]
  · rfl
theorem stay_begun {s : Kst} {at_ t : Int} (h : s.beg t = true) : stayStep s at_ t = s := by
  unfold stayStep nowK
  rw [if_pos h, setF_id rfl, setF_id h]
theorem stay_fresh {s : Kst} {at_ t : Int} (h : s.beg t = false) : stayStep s at_ t = { s with of := setF s.of t ⟨at_, -1, [], []⟩, beg := setF s.beg t true } := by
  unfold stayStep nowK
  rw [if_neg (by rw [h]; decide)]
theorem stay_put (s : Kst) (at_ t : Int) (r : Dl) (dn : List Int) : ({ stayStep s at_ t with of := setF (stayStep s at_ t).of t r, done := dn } : Kst) = { s with of := setF s.of t r, beg := setF s.beg t true, done := dn } := by
  unfold stayStep
  simp only [setF_setF]
theorem stay_of (s : Kst) (at_ t : Int) : (stayStep s at_ t).of t = nowK s at_ t := setF_same _ _ _
theorem stay_other (s : Kst) (at_ : Int) {t u : Int} (h : u ≠ t) : (stayStep s at_ t).of u = s.of u := setF_other _ _ h
theorem deals_congr {w : World} {v : Value} {ds : List Int} {of of1 : Int → Dl} (h : IsDeals w v ds of) (he : ∀ t ∈ ds, of1 t = of t) : IsDeals w v ds of1 := by
  obtain ⟨ad, b, off, cap, hv, ha, hb, hc⟩ := h
  refine ⟨ad, b, off, cap, hv, ha, hb, fun i hi => ?_⟩
  rw [he _ (show ds.getD i 0 ∈ ds by simp [List.getD, hi])]
  exact hc i hi
section
variable {w w0 w1 : World} {s s1 : Kst} {c c1 : KLay}
/-- A deal begins. -/
theorem KAt.begin {d : Nat} {at_ : Int} (hd : d < 7) (h : KAt w s c) (hb : s.beg (d : Int) = false) (hnd : ∀ t ∈ s.done, t ≠ (d : Int)) :
    ∃ c1, KAt (set5 (w.setCell ⟨c.B, d, none⟩ (.bool true)) c.O d (d : Int) at_ (-1) (.slice none 0 0) (.slice none 0 0)) (stayStep s at_ (d : Int)) c1 ∧ Turns (kFeet c) w (set5 (w.setCell ⟨c.B, d, none⟩ (.bool true)) c.O d (d : Int) at_ (-1) (.slice none 0 0) (.slice none 0 0)) ∧ (∀ k, kFeet c1 k → kFeet c k ∨ w.heap.size ≤ k) ∧ c1.O = c.O ∧ c1.B = c.B ∧ c1.dv = c.dv ∧ c1.lv = c.lv := by
  have hB : Turns (fun k => k = c.B) w (w.setCell ⟨c.B, d, none⟩ (.bool true)) := by
    refine Turns.setCell (Turns.refl _ w) ?_ _
    exact .inl rfl
  have hset := set5_turns (w.setCell ⟨c.B, d, none⟩ (.bool true)) c.O d (d : Int) at_ (-1) (.slice none 0 0) (.slice none 0 0)
  have hJ : Turns (kOfs c fun j => j = 0 ∨ j = 1) w (set5 (w.setCell ⟨c.B, d, none⟩ (.bool true)) c.O d (d : Int) at_ (-1) (.slice none 0 0) (.slice none 0 0)) := (hB.mono fun k _ hk => ⟨1, by omega, .inr rfl, hk⟩).trans hset fun k _ hk => ⟨0, by omega, .inl rfl, hk⟩
  have hOB : c.O ≠ c.B := fun e => h.apart 0 1 c.O (by omega) (by omega) (by omega) rfl e
  have hO0 : (w.setCell ⟨c.B, d, none⟩ (.bool true)).heap[c.O]? = some (.cells (cells35 s c) 56 (0, 0)) := (hB.block c.O (h.part_lt 0 _ (by omega) rfl) hOB).trans h.blkO
  rw [stay_fresh hb]
  refine ⟨{ c with sv := setF c.sv (d : Int) (.slice none 0 0), wv := setF c.wv (d : Int) (.slice none 0 0) }, ?_⟩
  have hch := h.change (s1 := { s with of := setF s.of (d : Int) ⟨at_, -1, [], []⟩, beg := setF s.beg (d : Int) true }) (c1 := { c with sv := setF c.sv (d : Int) (.slice none 0 0), wv := setF c.wv (d : Int) (.slice none 0 0) }) 0 hJ (fun i hi hne k hk => by
      match i, hne, hk with
      | 0, hne, _ => exact absurd rfl hne
      | 1, _, hk => exact hk
      | 2, _, hk => exact hk
      | 3, _, hk => exact hk
      | e + 4, _, hk =>
        by_cases he : e < 7
        · rw [kPart_seen _ he] at hk ⊢
          have hk' : (setF c.sv (d : Int) (.slice none 0 0) (e : Int)).ownBlock = some k := hk
          by_cases e1 : e = d
          · subst e1; rw [setF_same] at hk'; simp [Value.ownBlock] at hk'
          · rw [setF_other _ _ (by omega)] at hk'; exact hk'
        · obtain ⟨f, rfl⟩ : ∃ f, e = f + 7 := ⟨e - 7, by omega⟩
          have hk' : (setF c.wv (d : Int) (.slice none 0 0) (f : Int)).ownBlock = some k := (kPart_wrote _ f k).1 hk
          refine (kPart_wrote c f k).2 ?_
          by_cases e1 : f = d
          · subst e1; rw [setF_same] at hk'; simp [Value.ownBlock] at hk'
          · rw [setF_other _ _ (by omega)] at hk'; exact hk') (fun k hk => .inl hk) (by omega) (by
      have h5 := set5_block (d := d) (t := (d : Int)) (b := at_) (e := -1) (sv := .slice none 0 0) (wv := .slice none 0 0) hO0
      have h6 := cells35_set (s := s) (s1 := { s with of := setF s.of (d : Int) ⟨at_, -1, [], []⟩, beg := setF s.beg (d : Int) true }) (c := c) (c1 := { c with sv := setF c.sv (d : Int) (.slice none 0 0), wv := setF c.wv (d : Int) (.slice none 0 0) }) hd rfl (fun e he => ⟨setF_other _ _ he, setF_other _ _ he, setF_other _ _ he⟩)
      simp only [setF_same] at h6
      rw [h6] at h5
      exact h5) (by
      have h7 : (w.setCell ⟨c.B, d, none⟩ (.bool true)).heap[c.B]? = some (.cells (cellsB { s with of := setF s.of (d : Int) ⟨at_, -1, [], []⟩, beg := setF s.beg (d : Int) true }) 57 (0, 0)) := by rw [block_set h.blkB, cellsB_set (s1 := { s with of := setF s.of (d : Int) ⟨at_, -1, [], []⟩, beg := setF s.beg (d : Int) true }) hd rfl]
      exact (hset.block c.B (Array.getElem?_eq_some_iff.1 h7).1 (Ne.symm hOB)).trans h7) (by
      have h8 := h.doneT hJ (h.keep (by omega) (by omega))
      show World.ownsRow _ _ _ _ _ _ (flatD _ _ s.done)
      rw [flatD_same (s := s) (c := c) fun t ht => ⟨setF_other _ _ (hnd t ht), setF_other _ _ (hnd t ht), setF_other _ _ (hnd t ht)⟩]
      exact h8) (h.looksT hJ (h.keep (by omega) (by omega))) (fun e he => by
      show World.ownsRow _ _ _ _ (setF c.sv (d : Int) (.slice none 0 0) (e : Int)) (setF s.of (d : Int) ⟨at_, -1, [], []⟩ (e : Int)).seen.length (flat (setF s.of (d : Int) ⟨at_, -1, [], []⟩ (e : Int)).seen)
      by_cases e1 : e = d
      · subst e1; rw [setF_same, setF_same]; exact World.ownsRow_nil _ _ _ _
      · rw [setF_other _ _ (by omega), setF_other _ _ (by omega)]; exact h.seenT hJ he (h.keep (by omega) (by omega))) fun e he => by
      show World.ownsRow _ _ _ _ (setF c.wv (d : Int) (.slice none 0 0) (e : Int)) (setF s.of (d : Int) ⟨at_, -1, [], []⟩ (e : Int)).wrote.length ((setF s.of (d : Int) ⟨at_, -1, [], []⟩ (e : Int)).wrote.map (Value.int .i64))
      by_cases e1 : e = d
      · subst e1; rw [setF_same, setF_same]; exact World.ownsRow_nil _ _ _ _
      · rw [setF_other _ _ (by omega), setF_other _ _ (by omega)]; exact h.wroteT hJ he (h.keep (by omega) (by omega))
  exact ⟨hch.1, hch.2.1, hch.2.2, rfl, rfl, rfl, rfl⟩
/-- Something more is looked at. -/
theorem KAt.look {x : Op3} {v : Value} (h : KAt w s c) (ht : Turns (fun k => c.lv.ownBlock = some k) w w1) (hv : w1.ownsRow 0 63 3 v (s.looks.length + 1) (flat s.looks ++ flat [x])) (hap : ∀ k, v.ownBlock = some k → c.lv.ownBlock = some k ∨ w.heap.size ≤ k) :
    KAt w1 { s with looks := s.looks ++ [x] } { c with lv := v } ∧ Turns (kFeet c) w w1 ∧ ∀ k, kFeet { c with lv := v } k → kFeet c k ∨ w.heap.size ≤ k := by
  have hJ : Turns (kOfs c fun j => j = 3) w w1 := ht.mono fun k _ hk => ⟨3, by omega, rfl, hk⟩
  exact h.change (s1 := { s with looks := s.looks ++ [x] }) (c1 := { c with lv := v }) 3 hJ (fun i hi hne k hk => by
    match i, hne, hk with
    | 0, _, hk => exact hk
    | 1, _, hk => exact hk
    | 2, _, hk => exact hk
    | 3, hne, _ => exact absurd rfl hne
    | e + 4, _, hk => exact hk) hap (by omega) (h.blkOT hJ (h.keep (by omega) (by omega))) (h.blkBT hJ (h.keep (by omega) (by omega))) (h.doneT hJ (h.keep (by omega) (by omega))) (by rw [List.length_append, flat_append]; exact hv) (fun e he => h.seenT hJ he (h.keep (by omega) (by omega))) fun e he => h.wroteT hJ he (h.keep (by omega) (by omega))
end
/-- A run that has been made since a world. -/
structure KOwn (w0 w : World) (s : Kst) (c : KLay) : Prop where
  run : KAt w s c
  old : Below w0.heap.size w0 w
  feet : ∀ k, kFeet c k → w0.heap.size ≤ k
section
variable {w0 w w1 : World} {s s1 : Kst} {c c1 : KLay}
theorem KOwn.below (h : KOwn w0 w s c) (hb : Below w.heap.size w w1) : KOwn w0 w1 s c := ⟨h.run.below hb, h.old.trans (hb.mono h.old.size), h.feet⟩
theorem KOwn.to (h : KOwn w0 w s c) (h1 : KAt w1 s1 c1) (h2 : Turns (kFeet c) w w1) (h3 : ∀ k, kFeet c1 k → kFeet c k ∨ w.heap.size ≤ k) : KOwn w0 w1 s1 c1 := by
  refine ⟨h1, h.old.trans (h2.below h.old.size fun k hk hf => ?_), fun k hk => ?_⟩
  · have := h.feet k hf; omega
  · rcases h3 k hk with h4 | h4
    · exact h.feet k h4
    · exact Nat.le_trans h.old.size h4
end
/-- An op, and a deal, in blocks of their own beside it. -/
def OpBx (w : World) (Q : Nat) (x : Op3) : Prop := w.cell? ⟨Q, 0, none⟩ = some (.int .i64 x.1) ∧ w.cell? ⟨Q, 1, none⟩ = some (.int .i64 x.2.1) ∧ w.cell? ⟨Q, 2, none⟩ = some (.int .i64 x.2.2)
theorem OpBx.lt {w : World} {Q : Nat} {x : Op3} (h : OpBx w Q x) : Q < w.heap.size := World.block_lt_of_cell? w _ h.1
theorem OpBx.turn {w w1 : World} {F : Nat → Prop} {Q : Nat} {x : Op3} (h : OpBx w Q x) (ht : Turns F w w1) (hF : ¬ F Q) : OpBx w1 Q x :=
  ⟨(ht.cell (p := ⟨Q, 0, none⟩) h.lt hF).trans h.1, (ht.cell (p := ⟨Q, 1, none⟩) h.lt hF).trans h.2.1, (ht.cell (p := ⟨Q, 2, none⟩) h.lt hF).trans h.2.2⟩
theorem OpBx.below {w w1 : World} {Q : Nat} {x : Op3} (h : OpBx w Q x) (hb : Below w.heap.size w w1) : OpBx w1 Q x := h.turn (Turns.of_below (F := fun _ => False) hb) fun hf => hf
theorem opBx_new (w : World) (t i m : Int) (T : TypeId) : OpBx (w.alloc (.cells #[.int .i64 t, .int .i64 i, .int .i64 m] T)) w.heap.size (t, i, m) := by
  refine ⟨?_, ?_, ?_⟩ <;> simp
def DlBx (w : World) (D : Nat) (t : Int) (r : Dl) (sv wv : Value) : Prop := w.heap[D]? = some (.cells #[.int .i64 t, .int .i64 r.began, .int .i64 r.ended, sv, wv] 39 (0, 0))
theorem DlBx.lt {w : World} {D : Nat} {t : Int} {r : Dl} {sv wv : Value} (h : DlBx w D t r sv wv) : D < w.heap.size := (Array.getElem?_eq_some_iff.1 h).1
theorem DlBx.turn {w w1 : World} {F : Nat → Prop} {D : Nat} {t : Int} {r : Dl} {sv wv : Value} (h : DlBx w D t r sv wv) (ht : Turns F w w1) (hF : ¬ F D) : DlBx w1 D t r sv wv := (ht.block D h.lt hF).trans h
theorem DlBx.below {w w1 : World} {D : Nat} {t : Int} {r : Dl} {sv wv : Value} (h : DlBx w D t r sv wv) (hb : Below w.heap.size w w1) : DlBx w1 D t r sv wv := (hb.block D h.lt).trans h
theorem DlBx.cells {w : World} {D : Nat} {t : Int} {r : Dl} {sv wv : Value} (h : DlBx w D t r sv wv) : w.cell? ⟨D, 0, none⟩ = some (.int .i64 t) ∧ w.cell? ⟨D, 1, none⟩ = some (.int .i64 r.began) ∧ w.cell? ⟨D, 2, none⟩ = some (.int .i64 r.ended) ∧ w.cell? ⟨D, 3, none⟩ = some sv ∧ w.cell? ⟨D, 4, none⟩ = some wv := by
  refine ⟨?_, ?_, ?_, ?_, ?_⟩ <;> rw [cell_of_row w D _ _ _ _ h] <;> rfl
theorem DlBx.thaw {w : World} {D : Nat} {t : Int} {r : Dl} {sv wv : Value} (h : DlBx w D t r sv wv) (k : Nat) : w.frozen? ⟨D, k, none⟩ = false := by
  have h' : w.heap[D]? = some (.cells #[.int .i64 t, .int .i64 r.began, .int .i64 r.ended, sv, wv] 39 (0, 0)) := h
  simp [World.frozen?, h']
theorem KAt.slots {w : World} {s : Kst} {c : KLay} (h : KAt w s c) {d : Nat} (hd : d < 7) : (∃ x0 x1 x2 x3 x4, w.cell? ⟨c.O, d * 5, none⟩ = some x0 ∧ w.cell? ⟨c.O, d * 5 + 1, none⟩ = some x1 ∧ w.cell? ⟨c.O, d * 5 + 2, none⟩ = some x2 ∧ w.cell? ⟨c.O, d * 5 + 3, none⟩ = some x3 ∧ w.cell? ⟨c.O, d * 5 + 4, none⟩ = some x4) ∧ w.frozen? ⟨c.O, d * 5, none⟩ = false ∧ w.frozen? ⟨c.O, d * 5 + 1, none⟩ = false ∧ w.frozen? ⟨c.O, d * 5 + 2, none⟩ = false ∧ w.frozen? ⟨c.O, d * 5 + 3, none⟩ = false ∧ w.frozen? ⟨c.O, d * 5 + 4, none⟩ = false :=
  ⟨⟨_, _, _, _, _, h.cO (by omega), h.cO (by omega), h.cO (by omega), h.cO (by omega), h.cO (by omega)⟩, h.thawO _, h.thawO _, h.thawO _, h.thawO _, h.thawO _⟩
/-- A cell of a block beside is set in both. -/
theorem Turns.beside {F : Nat → Prop} {w w1 : World} {D n : Nat} {u : Value} (ht : Turns F w w1) (hD : D < w.heap.size) (hF : ¬ F D) : Turns F (w.setCell ⟨D, n, none⟩ u) (w1.setCell ⟨D, n, none⟩ u) := by
  refine ⟨ht.os, ht.tape, ht.output, by simpa using ht.size, fun k hk hf => ?_⟩
  have hk' : k < w.heap.size := by simpa using hk
  have hb := ht.block k hk' hf
  by_cases e : k = D
  · subst e
    unfold World.setCell
    simp only [Array.getElem?_modify, if_true]
    rw [hb]
  · rw [Below.heap_setCell _ _ _ _ (fun e2 => e e2), Below.heap_setCell _ _ _ _ (fun e2 => e e2)]
    exact hb
theorem turns_cell (w : World) (D n : Nat) (u : Value) : Turns (fun k => k = D) w (w.setCell ⟨D, n, none⟩ u) := by
  refine Turns.setCell (Turns.refl _ w) ?_ _
  exact .inl rfl
theorem KOwn.box {w0 w : World} {s : Kst} {c : KLay} (h : KOwn w0 w s c) {D n : Nat} {u : Value} (hD : ¬ kFeet c D) (h0 : w0.heap.size ≤ D) : KOwn w0 (w.setCell ⟨D, n, none⟩ u) s c :=
  ⟨h.run.turn (turns_cell w D n u) fun _ hk e => hD (e ▸ hk), h.old.trans ((turns_cell w D n u).below h.old.size fun _ hk e => by omega), h.feet⟩
theorem own_cell {w : World} {base e size n : Nat} {v : Value} {xs : List Value} (h : w.ownsRow base e size v n xs) {D q : Nat} {u : Value} (hD : ¬ v.ownBlock = some D) : (w.setCell ⟨D, q, none⟩ u).ownsRow base e size v n xs := (turns_cell w D q u).own h fun _ hk e => hD (e ▸ hk)
end Go.Proofs.YtccjognnehoodafDoor
