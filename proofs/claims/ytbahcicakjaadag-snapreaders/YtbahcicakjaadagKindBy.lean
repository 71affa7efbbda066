/-
  PROVED HERE: lanelaw2.by says yes of an outcome that is as if deals had come one behind the other, by an order. Old memory stays as it was.
  Conditions: the lists are short, the ops are ops.
-/
import Derived.Test.YtbahcicakjaadagKindBy0
import Derived.Test.YtbahcicakjaadagMgan
import Derived.Test.YtbahcicakjaadagVictMap
import Derived.Test.YtbahcicakjaadagSameInts
import Derived.OwnWalk
import Derived.Deep.CutRange
namespace Go.Proofs.Ytbahcicakjaadag
open Go.RowKit

/-- Who wrote an item last, of deals one behind the other, by their ops. -/
def lastO (l : List Op3) (p : List Int) (item : Int) : Int := p.foldl (fun f t => if inB (wrL (ofL l t)) item = true then t else f) 0
def lastG (l : List Op3) (p : List Int) (i : Nat) : Int := lastO l p ((i : Int) + 1)
theorem lastO_snoc (l : List Op3) (p : List Int) (t item : Int) : lastO l (p ++ [t]) item = if inB (wrL (ofL l t)) item = true then t else lastO l p item := by
  unfold lastO
  rw [List.foldl_append]
  rfl
/-- .. and while a deal is gone over. -/
def lastE (t : Int) (f : Nat → Int) (ws : List Int) (i : Nat) : Int := if inB ws ((i : Int) + 1) = true then t else f i
theorem expK_wr (t : Int) (last : Int → Int) (own : List Op3) : (expK t last own).2 = wrL own := by
  have h : ∀ (own : List Op3) (s : List Op3 × List Int), (own.foldl (expStep t last) s).2 = s.2 ++ wrL own := by
    intro own
    induction own with
    | nil => intro s; simp [wrL]
    | cons o r ih =>
      intro s
      rw [List.foldl_cons, ih]
      unfold expStep wrL
      by_cases h1 : o.2.1 = 1
      · rw [if_pos h1]
        have : (o.2.1 == 2) = false := by rw [h1]; rfl
        simp [this]
      · rw [if_neg h1]
        by_cases h2 : o.2.1 = 2
        · rw [if_pos h2]
          have : (o.2.1 == 2) = true := by rw [h2]; rfl
          simp [this]
        · rw [if_neg h2]
          have : (o.2.1 == 2) = false := by simpa using h2
          simp [this]
  exact (h own ([], [])).trans (by simp)
theorem lastE_nil (t : Int) (f : Nat → Int) : lastE t f [] = f := by funext i; unfold lastE; rw [if_neg (by simp [inB])]
theorem lastE_all (l : List Op3) (p : List Int) (t : Int) : lastE t (lastG l p) (wrL (ofL l t)) = lastG l (p ++ [t]) := by
  funext i
  unfold lastE lastG
  rw [lastO_snoc]
theorem lastE_snoc (t : Int) (f : Nat → Int) (ws : List Int) {k : Nat} : lastE t f (ws ++ [(k : Int) + 1]) = fun j => if j = k then t else lastE t f ws j := by
  funext i
  unfold lastE
  by_cases e : i = k
  · subst e
    rw [if_pos (by simp [inB]), if_pos rfl]
  · rw [if_neg e]
    have : inB (ws ++ [(k : Int) + 1]) ((i : Int) + 1) = inB ws ((i : Int) + 1) := by
      unfold inB
      simp
      omega
    rw [this]
theorem expK_prefix (t : Int) (last : Int → Int) (own : List Op3) (j : Nat) : ∃ r, (expK t last own).1 = (expK t last (own.take j)).1 ++ r := by
  have h : ∀ (b : List Op3) (s : List Op3 × List Int), ∃ r, (b.foldl (expStep t last) s).1 = s.1 ++ r := by
    intro b
    induction b with
    | nil => intro s; exact ⟨[], by simp⟩
    | cons o b ih =>
      intro s
      obtain ⟨r, hr⟩ := ih (expStep t last s o)
      rw [List.foldl_cons, hr]
      unfold expStep
      split
      · exact ⟨_ :: r, by simp; rfl⟩
      · split
        · exact ⟨r, rfl⟩
        · exact ⟨r, rfl⟩
  have e : expK t last own = (own.drop j).foldl (expStep t last) (expK t last (own.take j)) := by
    unfold expK
    rw [← List.foldl_append, List.take_append_drop]
  rw [e]
  exact h _ _
/-- An outcome in a block of its own. -/
def OBx (w : World) (P : Nat) (a1 a2 a3 : Value) : Prop := w.heap[P]? = some (.cells #[a1, a2, a3] 28 (0, 0))
theorem OBx.turn {w w1 : World} {P : Nat} {a1 a2 a3 : Value} {F : Nat → Prop} (h : OBx w P a1 a2 a3) (ht : Turns F w w1) (hF : ¬ F P) : OBx w1 P a1 a2 a3 := by
  have h' : w.heap[P]? = _ := h
  exact (ht.block P (Array.getElem?_eq_some_iff.1 h').1 hF).trans h
theorem OBx.cells {w : World} {P : Nat} {a1 a2 a3 : Value} (h : OBx w P a1 a2 a3) : w.cell? ⟨P, 0, none⟩ = some a1 ∧ w.cell? ⟨P, 1, none⟩ = some a2 ∧ w.cell? ⟨P, 2, none⟩ = some a3 := by
  refine ⟨?_, ?_, ?_⟩ <;> rw [cell_of_row w P _ _ _ _ h] <;> rfl
/-- How things stand in 'by'. -/
structure BySt (w0 w : World) (P L : Nat) (a1 a2 a3 : Value) (la : Nat → Int) : Prop where
  box : OBx w P a1 a2 a3
  nums : NumsAt w L 6 la
  old : Below w0.heap.size w0 w
  ltL : L < w.heap.size
  newL : w0.heap.size ≤ L
  ne : P ≠ L
section
variable {w0 w w1 : World} {P L : Nat} {a1 a2 a3 : Value} {la : Nat → Int}
theorem BySt.later (h : BySt w0 w P L a1 a2 a3 la) (hb : Below w.heap.size w w1) : BySt w0 w1 P L a1 a2 a3 la :=
  have ht : Turns (fun _ => False) w w1 := Turns.of_below hb
  ⟨h.box.turn ht (fun hf => hf), h.nums.turn ht h.ltL (fun hf => hf), h.old.trans (hb.mono h.old.size), Nat.lt_of_lt_of_le h.ltL ht.size, h.newL, h.ne⟩
theorem BySt.put (h : BySt w0 w P L a1 a2 a3 la) {k : Nat} (hk : k < 6) (x : Int) : BySt w0 (w.setCell ⟨L, k, none⟩ (.int .i64 x)) P L a1 a2 a3 (fun j => if j = k then x else la j) := by
  have ht : Turns (fun j => j = L) w (w.setCell ⟨L, k, none⟩ (.int .i64 x)) := by
    refine Turns.setCell (Turns.refl _ w) ?_ _
    exact .inl rfl
  exact ⟨h.box.turn ht h.ne, h.nums.set hk x, h.old.setCell h.newL _, by simpa using h.ltL, h.newL, h.ne⟩
end
theorem by_start {w w1 : World} {a1 a2 a3 : Value} (hown : w1.ownsRow (w.heap.size + 1) 3 1 (.slice (some ⟨w.heap.size + 1, 0, none⟩) 6 6) 6 (madeCells (Value.int .i64 0).cells (6 * 1)).toList) (hgr : (w.alloc (.cells #[a1, a2, a3] 28)).grownBy w1 none) :
    BySt w w1 w.heap.size (w.heap.size + 1) a1 a2 a3 (fun _ => 0) := by
  have hL : w.heap.size + 1 < w1.heap.size := (hown.lt _ rfl).2
  have h0 : (w.alloc (.cells #[a1, a2, a3] 28)).heap[w.heap.size]? = some (.cells #[a1, a2, a3] 28 (0, 0)) := heap_alloc_new w _
  exact ⟨(hgr.block _ (by simp) (by simp)).trans h0, nums_start hown (made_zero 6), ((Below.refl _ w).alloc (Nat.le_refl _) _).grown hgr (by simp) (fun g hg => by cases hg), hL, by omega, by omega⟩
/-- A row of one's own above a block that turns. -/
theorem row_keep {w : World} {base e L : Nat} {v : Value} {l : List Op3} (h : w.ownsRow base e 3 v l.length (flat l)) (hL : L < base) : ∃ ad cap b, v = .slice ad l.length cap ∧ (0 < l.length → ad = some ⟨b, 0, none⟩) ∧ ∀ W, Turns (fun j => j = L) w W → ∀ j, j < l.length → W.cell? ⟨b, j * 3, none⟩ = some (.int .i64 (opAt l j).1) ∧ W.cell? ⟨b, j * 3 + 1, none⟩ = some (.int .i64 (opAt l j).2.1) ∧ W.cell? ⟨b, j * 3 + 2, none⟩ = some (.int .i64 (opAt l j).2.2) := by
  have h' := h
  obtain ⟨hx, ⟨hv, hd⟩ | ⟨g, cap, cur, hv, hb, hg, hn, hm, hsz, htk⟩⟩ := h'
  · exact ⟨none, 0, 0, by rw [hv, hd], fun hp => by omega, fun W _ j hj => by omega⟩
  · refine ⟨some ⟨g, 0, none⟩, cap, g, hv, fun _ => rfl, fun W hW j hj => ?_⟩
    have h2 := hW.own h fun k hk e => by
      have := (h.lt k hk).1
      omega
    have h3 : OpsAt W g 0 l := opsAt_of fun j u hj => by
      have := h2.cells (g := g) (by rw [hv]; rfl) j u hj
      rw [Addr.add_lit] at this
      exact this
    have h4 := h3 j hj
    rw [Nat.zero_add] at h4
    exact h4
/-- What 'by' asks of an outcome. -/
def ByOk (l : List Op3) (se : List Op3) (la ord : List Int) : Prop :=
  (∀ i, i < ord.length → se.filter (fun o : Op3 => o.1 == ord.getD i 0) = (expK (ord.getD i 0) (lastO l (ord.take i)) (ofL l (ord.getD i 0))).1) ∧ la = (List.range 6).map (lastG l ord)
theorem takeB {ds : List Int} {k : Nat} (h : k < ds.length) : ds.take (k + 1) = ds.take k ++ [ds.getD k 0] := by rw [List.take_succ_eq_append_getElem h]; simp [List.getD, List.getElem?_eq_getElem h]
end Go.Proofs.Ytbahcicakjaadag
