/-
  PROVED HERE: a map that tells where each deal stands among those that were aborted; numbers in a block; a loop over such a map, in whichever order, lays each at its place.
  Conditions: no deal was aborted twice.
-/
import Derived.Test.YtccjognnehoodafDoorMgbf
import Derived.Test.YtccjognnehoodafDoorMgaf
namespace Go.Proofs.YtccjognnehoodafDoor
open Go.RowKit
open Go.Maps (Keyed)

/-- Where a deal stands among those that were aborted. -/
def posL : List Int → Int → Option Nat
  | [], _ => none
  | x :: r, t => if x = t then some 0 else (posL r t).map (· + 1)
def victF (l : List Int) (t : Int) : Option Value := (posL l t).map fun (k : Nat) => Value.int .i64 (k : Int)
theorem posL_some : ∀ (l : List Int) (t : Int), (posL l t).isSome = true ↔ t ∈ l := by
  intro l t
  induction l with
  | nil => simp [posL]
  | cons x r ih =>
    unfold posL
    by_cases e : x = t
    · simp [e]
    · rw [if_neg e]
      simp only [Option.isSome_map, List.mem_cons]
      rw [ih]
      constructor
      · exact .inr
      · rintro (h | h)
        · exact absurd h.symm e
        · exact h
theorem posL_at : ∀ {l : List Int} {t : Int} {k : Nat}, posL l t = some k → l[k]? = some t := by
  intro l
  induction l with
  | nil => intro t k h; cases h
  | cons x r ih =>
    intro t k h
    unfold posL at h
    split at h
    · rename_i e
      cases h
      simp [e]
    · cases hr : posL r t with
      | none => rw [hr] at h; cases h
      | some j =>
        rw [hr] at h
        cases h
        simpa using ih hr
theorem posL_snoc : ∀ {l : List Int} {t : Int}, t ∉ l → ∀ y, posL (l ++ [t]) y = setF (posL l) t (some l.length) y := by
  intro l t
  induction l with
  | nil =>
    intro _ y
    unfold setF
    by_cases e : y = t
    · simp [posL, e]
    · simp [posL, e, Ne.symm e]
  | cons x r ih =>
    intro h y
    rw [List.mem_cons, not_or] at h
    have h2 := ih h.2 y
    show posL (x :: (r ++ [t])) y = _
    unfold setF at h2 ⊢
    unfold posL
    by_cases e : y = t
    · subst e
      rw [if_pos rfl] at h2 ⊢
      rw [if_neg (Ne.symm h.1), h2]
      rfl
    · rw [if_neg e] at h2 ⊢
      rw [h2]
theorem victF_some (l : List Int) (t : Int) : (victF l t).isSome = decide (t ∈ l) := by
  have h1 : (victF l t).isSome = (posL l t).isSome := Option.isSome_map
  rw [h1]
  by_cases h : t ∈ l
  · rw [decide_eq_true h]; exact (posL_some l t).2 h
  · rw [decide_eq_false h]
    cases hp : (posL l t).isSome with
    | false => rfl
    | true => exact absurd ((posL_some l t).1 hp) h
theorem victF_snoc {l : List Int} {t : Int} (h : t ∉ l) (y : Int) : victF (l ++ [t]) y = setF (victF l) t (some (.int .i64 (l.length : Int))) y := by
  unfold victF
  rw [posL_snoc h]
  unfold setF
  split <;> rfl
/-- Numbers in a block. -/
def NumsAt (w : World) (S m : Nat) (vs : Nat → Int) : Prop := ∀ j, j < m → w.cell? ⟨S, j, none⟩ = some (.int .i64 (vs j)) ∧ w.frozen? ⟨S, j, none⟩ = false
theorem NumsAt.set {w : World} {S m : Nat} {vs : Nat → Int} (h : NumsAt w S m vs) {k : Nat} (hk : k < m) (x : Int) : NumsAt (w.setCell ⟨S, k, none⟩ (.int .i64 x)) S m (fun j => if j = k then x else vs j) := fun j hj => by
  obtain ⟨hc, hf⟩ := h j hj
  constructor
  · show _ = some (Value.int .i64 (if j = k then x else vs j))
    by_cases e : j = k
    · subst e
      rw [World.cell?_setCell_same _ _ _ hc, if_pos rfl]
    · rw [World.cell?_setCell_other _ _ _ _ (by intro he; injection he with _ he2 _; exact e he2.symm), hc, if_neg e]
  · simpa using hf
theorem nums_start {w : World} {base g m : Nat} {xs : List Value} (h : w.ownsRow base 3 1 (.slice (some ⟨g, 0, none⟩) m m) m xs) (hxs : xs = List.replicate m (Value.int .i64 0)) : NumsAt w g m fun _ => 0 := by
  subst hxs
  obtain ⟨_, ⟨hv, _⟩ | ⟨g', cap, cur, hv, _, hg, _, _, hsz, htk⟩⟩ := h
  · cases hv
  · simp only [Value.slice.injEq, Option.some.injEq, Addr.mk.injEq, and_true, true_and] at hv
    obtain ⟨rfl, rfl⟩ := hv
    intro j hj
    refine ⟨?_, by simp [World.frozen?, hg]⟩
    rw [cell_of_row w g j cur _ _ hg]
    have h1 : (cur.toList.take (m * 1))[j]? = some (Value.int .i64 0) := by rw [htk, List.getElem?_replicate, if_pos hj]
    rw [List.getElem?_take, if_pos (by omega), Array.getElem?_toList] at h1
    exact h1
theorem NumsAt.turn {w w1 : World} {S m : Nat} {vs : Nat → Int} {F : Nat → Prop} (h : NumsAt w S m vs) (ht : Turns F w w1) (hS : S < w.heap.size) (hF : ¬ F S) : NumsAt w1 S m vs := fun j hj =>
  ⟨(ht.cell (p := ⟨S, j, none⟩) hS hF).trans (h j hj).1, (World.frozen?_of_block (a := ⟨S, j, none⟩) (ht.block S hS hF)).trans (h j hj).2⟩
theorem NumsAt.ints {w : World} {S : Nat} {vs : Nat → Int} {l : List Int} (h : NumsAt w S l.length vs) (hS : S < w.heap.size) (he : ∀ j, j < l.length → vs j = l.getD j 0) : IsInts w (.slice (some ⟨S, 0, none⟩) l.length l.length) l :=
  ⟨some ⟨S, 0, none⟩, S, 0, l.length, rfl, fun _ => rfl, fun h => (by cases h), .inl hS, fun i hi => by rw [Nat.zero_add, (h i hi).1, he i hi]⟩
/-- The step of a loop over the map of those that were aborted. -/
theorem wp_next_outs (w : World) {ops : Array Oper} {rest : List Oper} {o : Oper} {a : Act} {Q : Exit → Act → World → Prop} (hg : o.guard = none) (it : Operand) (hop : o.op = Op.next it false) (b r n : Nat) (D : DataW Value) (left : Lit → Bool) (cnt : Nat) (l : List Int)
    (hit : a.eval it = .pointer (some ⟨r, 0, none⟩)) (h : w.ranges Tryd.prog 3 heldElem b r n D left cnt) (hh : ∀ x, Wf x → Maps.has D (.int .i64 x) = (victF l x).isSome) (hat : ∀ x v, Wf x → victF l x = some v → ∀ z, D.atKey (.int .i64 x) z = .held v)
    (hDone : cnt = 0 → (∀ kl, left kl = false) → wpList Tryd.prog ops Q rest (a.put o.dst (.tuple #[.bool false])) w)
    (hMore : ∀ (x : Int) (k : Nat) (w' : World) (cnt' : Nat), l[k]? = some x → w'.ranges Tryd.prog 3 heldElem b r n D (fun z => left z && !z.sameKey (.int .i64 x)) cnt' → cnt' < cnt →
      w.grownBy w' (some r) → w'.heap.size = w.heap.size → (Instr.entry (.pointer (some ⟨r, 0, none⟩))).run Tryd.prog w' = .ok (.tuple #[.int .i64 x, .int .i64 (k : Int)]) w' → wpList Tryd.prog ops Q rest (a.put o.dst (.tuple #[.bool true, .int .i64 x, .int .i64 (k : Int)])) w') :
    wpList Tryd.prog ops Q (o :: rest) a w := by
  refine wpList_next_ranges (α := Int) (β := Value) w hg it hop 3 KI heldElem (Value.int .i64) id (fun key kl hkey => by obtain ⟨x, rfl, _⟩ := Maps.keyOf_int_inv Tryd.underlying3 hkey; exact ⟨x, rfl⟩) (fun v y _ => ⟨v, rfl⟩) b r n D left cnt hit h hDone ?_
  intro x c kl y w' cnt' hkey hlk hv hat2 hrg hlt hgr hsz hen
  obtain ⟨x', ex, rfl, hwx⟩ := Maps.keyOf_int_inv Tryd.underlying3 hkey
  cases ex
  have hy : y.1 = .held c := by simp only [heldElem, id, Option.some.injEq] at hv; rw [← hv]
  have hhas := Maps.has_true_of_atKey hat2
  rw [hh x hwx] at hhas
  obtain ⟨u, hu⟩ := Option.isSome_iff_exists.1 hhas
  have hc : c = u := by
    have h1 := hat2 (.held c)
    rw [hat x u hwx hu, hy] at h1
    exact (DataW.held.inj h1).symm
  unfold victF at hu
  cases hp : posL l x with
  | none => rw [hp] at hu; cases hu
  | some k =>
    rw [hp] at hu
    have hu' : u = .int .i64 (k : Int) := (Option.some.inj hu).symm
    subst hc
    rw [hu'] at hen ⊢
    exact hMore x k w' cnt' (posL_at hp) hrg hlt hgr hsz hen
theorem nodupI_at {l : List Int} (h : l.Pairwise (· ≠ ·)) {i j : Nat} {x : Int} (hi : l[i]? = some x) (hj : l[j]? = some x) : i = j := by
  rcases Nat.lt_trichotomy i j with h1 | h1 | h1
  · obtain ⟨a1, a2⟩ := List.getElem?_eq_some_iff.1 hi
    obtain ⟨b1, b2⟩ := List.getElem?_eq_some_iff.1 hj
    exact absurd (a2.trans b2.symm) (List.pairwise_iff_getElem.1 h i j a1 b1 h1)
  · exact h1
  · obtain ⟨a1, a2⟩ := List.getElem?_eq_some_iff.1 hi
    obtain ⟨b1, b2⟩ := List.getElem?_eq_some_iff.1 hj
    exact absurd (b2.trans a2.symm) (List.pairwise_iff_getElem.1 h j i b1 a1 h1)
theorem made_zero (m : Nat) : (madeCells (Value.int .i64 0).cells (m * 1)).toList = List.replicate m (Value.int .i64 0) := by
  refine List.ext_getElem? fun j => ?_
  by_cases hj : j < m
  · simp [madeCells, Value.cells, Nat.mod_one, hj]
  · simp [madeCells, Value.cells, Nat.mod_one, hj]
/-- What has been laid so far. -/
def Laid (l : List Int) (left : Lit → Bool) (vs : Nat → Int) : Prop := ∀ j, j < l.length → left (.int .i64 (l.getD j 0)) = false → vs j = l.getD j 0
theorem Laid.step {l : List Int} {left : Lit → Bool} {vs : Nat → Int} (h : Laid l left vs) (hn : l.Pairwise (· ≠ ·)) {k : Nat} {x : Int} (hk : l[k]? = some x) : Laid l (fun z => left z && !z.sameKey (.int .i64 x)) fun j => if j = k then x else vs j := by
  intro j hj hl
  have hjd : l[j]? = some (l.getD j 0) := by simp [List.getD, hj]
  show (if j = k then x else vs j) = _
  have hl : (left (.int .i64 (l.getD j 0)) && !(Lit.int .i64 (l.getD j 0)).sameKey (.int .i64 x)) = false := hl
  by_cases e : j = k
  · subst e
    rw [if_pos rfl]
    rw [hk] at hjd
    exact Option.some.inj hjd
  · rw [if_neg e]
    cases hs : (Lit.int .i64 (l.getD j 0)).sameKey (.int .i64 x) with
    | true =>
      have h1 := WideAt.sameKey_eq hs
      injection h1 with _ h2
      rw [h2] at hjd
      exact absurd (nodupI_at hn hjd hk) e
    | false =>
      rw [hs] at hl
      exact h j hj (by simpa using hl)
end Go.Proofs.YtccjognnehoodafDoor
