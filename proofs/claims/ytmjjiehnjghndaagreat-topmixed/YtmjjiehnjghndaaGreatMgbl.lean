/-
  PROVED HERE: a map from whole numbers to whatever it holds, as package strict keeps three of them, said key by key: what is looked up, laid in, struck out, counted, met one by one.
  Conditions: its keys are 1 to 6.
  PROVED HERE: a map that tells where each deal stands among those that were aborted; numbers in a block; a loop over such a map, in whichever order, lays each at its place.
  Conditions: no deal was aborted twice.
-/
import Derived.Test.YtmjjiehnjghndaaGreatMgar
import Derived.Test.YtmjjiehnjghndaaGreatMgap
import Derived.Maps.OwnSet
import Derived.Maps.RangeWalk
import Derived.Test.YtmjjiehnjghndaaGreatMgae
namespace Go.Proofs.YtmjjiehnjghndaaGreat
open Go.RowKit
open Go.Maps (Keyed)

/-- An element, as it is. -/
def heldElem (v : Value) : Option (DataW Value × List MemPlace) := some (.held v, [])
theorem KI : Keyed Tryz.prog 3 := Maps.int_keyed Tryz.underlying3
abbrev Wf (x : Int) : Prop := (Lit.int .i64 x).wf = true
theorem wf_deal {x : Int} (h1 : 1 ≤ x) (h6 : x ≤ 6) : Wf x := WalkArith.wf_i64 (by omega)
theorem keyI {x : Int} (h : Wf x) : keyOf Tryz.prog 3 (.int .i64 x) = some (.int .i64 x) := Maps.keyOf_int_mk Tryz.underlying3 h
/-- A map in memory, key by key. -/
def MapIs (w : World) (b : Nat) (f : Int → Option Value) (m : Nat) : Prop :=
  ∃ D : DataW Value, w.ownsMap Tryz.prog 3 heldElem b m D ∧ Maps.size D = m ∧ (∀ x, Wf x → Maps.has D (.int .i64 x) = (f x).isSome) ∧ (∀ x v, Wf x → f x = some v → ∀ z, D.atKey (.int .i64 x) z = .held v) ∧ ∀ x, (f x).isSome = true → 1 ≤ x ∧ x ≤ 6
theorem lits_len : ∀ (l m : List Lit), l.Pairwise (· ≠ ·) → (∀ x ∈ l, x ∈ m) → l.length ≤ m.length := by
  intro l
  induction l with
  | nil => intro m _ _; exact Nat.zero_le _
  | cons x r ih =>
    intro m hp hm
    rw [List.pairwise_cons] at hp
    obtain ⟨a, b, rfl⟩ := List.append_of_mem (hm x List.mem_cons_self)
    have h1 := ih (a ++ b) hp.2 fun y hy => by
      have h2 := hm y (List.mem_cons_of_mem _ hy)
      rw [List.mem_append, List.mem_cons] at h2
      rw [List.mem_append]
      rcases h2 with h2 | h2 | h2
      · exact .inl h2
      · exact absurd h2.symm (hp.1 y hy)
      · exact .inr h2
    simp only [List.length_append, List.length_cons] at h1 ⊢
    omega
theorem own_tight {w : World} {b n : Nat} {D : DataW Value} (h : w.ownsMap Tryz.prog 3 heldElem b n D) : w.ownsMap Tryz.prog 3 heldElem b (Maps.size D) D := by
  obtain ⟨es, clock, hb, F, hs, rfl⟩ := h
  refine ⟨es, clock, hb, F, ?_, rfl⟩
  simp [Maps.size, length_sorted]
theorem own_int {w : World} {b n : Nat} {D : DataW Value} (h : w.ownsMap Tryz.prog 3 heldElem b n D) : ∃ es, D = .map es ∧ es.Pairwise (fun p q => p.1 ≠ q.1) ∧ ∀ p ∈ es, ∃ x, Wf x ∧ p.1 = .int .i64 x ∧ Maps.has D p.1 = true := by
  obtain ⟨es, h1, h2, h3⟩ := h.entries KI
  refine ⟨es, h1, h2, fun p hp => ?_⟩
  have hh : Maps.has D p.1 = true := by rw [h1]; exact List.any_eq_true.2 ⟨p, hp, WideAt.sameKey_self (h3 p hp)⟩
  obtain ⟨ms, clock, hb, F, hs, hD⟩ := h
  rw [h1] at hD
  have hD' : es = (ms.toList.map (WideElems.rg Tryz.prog 3 heldElem)).foldr DataW.insert [] := by injection hD
  rw [hD', mem_sorted] at hp
  obtain ⟨e, he, rfl⟩ := List.mem_map.1 hp
  obtain ⟨y, hy⟩ := F.reads e he
  obtain ⟨x, -, hx, hw⟩ := Maps.keyOf_int_inv Tryz.underlying3 (WideElems.rd_key hy)
  exact ⟨x, hw, by rw [WideElems.rg_of hy]; exact hx, hh⟩
section
variable {w w1 : World} {b m : Nat} {f : Int → Option Value}
theorem MapIs.lt (h : MapIs w b f m) : b < w.heap.size := by obtain ⟨D, h1, _⟩ := h; exact h1.lt
theorem MapIs.small (h : MapIs w b f m) : m ≤ 6 := by
  obtain ⟨D, h1, h2, h3, h4, h5⟩ := h
  obtain ⟨es, e1, e2, e3⟩ := own_int h1
  have h6 := lits_len (es.map (·.1)) [.int .i64 1, .int .i64 2, .int .i64 3, .int .i64 4, .int .i64 5, .int .i64 6] (List.pairwise_map.2 e2) fun k hk => by
    obtain ⟨p, hp, rfl⟩ := List.mem_map.1 hk
    obtain ⟨x, hw, hx, hh⟩ := e3 p hp
    rw [hx] at hh
    rw [h3 x hw] at hh
    have h7 := h5 x hh
    rw [hx]
    rcases six h7.1 h7.2 with rfl | rfl | rfl | rfl | rfl | rfl <;> simp
  rw [← h2, e1]
  simpa [Maps.size] using h6
theorem MapIs.turn {F : Nat → Prop} (h : MapIs w b f m) (ht : Turns F w w1) (hF : ¬ F b) : MapIs w1 b f m := by
  have hl := h.lt
  obtain ⟨D, ⟨es, clock, hb, r⟩, h2⟩ := h
  exact ⟨D, ⟨es, clock, (ht.block b hl hF).trans hb, r⟩, h2⟩
theorem MapIs.drew (h : MapIs w b f m) : MapIs w.drew b f m := h
theorem MapIs.congr {g : Int → Option Value} (h : MapIs w b f m) (e : ∀ x, g x = f x) : MapIs w b g m := by
  obtain rfl : g = f := funext e
  exact h
theorem mapIs_made (w : World) : MapIs (w.alloc (.map #[] 0)) w.heap.size (fun _ => none) 0 :=
  ⟨.map [], World.ownsMap_made w _ _ _, rfl, fun x _ => rfl, fun x v _ h => (by cases h), fun x h => (by cases h)⟩
theorem turned_turns {w' : World} (h : w.mapTurned w' b) : Turns (fun k => k = b) w w' := (Turns.refl _ w).grown h.grown fun _ hk => .inl (Option.some.inj hk).symm
theorem key_ne {x y : Int} (h : x ≠ y) : Lit.int .i64 x ≠ Lit.int .i64 y := fun e => h (by injection e)
theorem key_lit {x : Int} (h : Wf x) : WideAt.IsKeyLit (.int .i64 x) := KI.key (keyI h)
/-- What is looked up. -/
theorem MapIs.look (c : Bool) {t e : TypeId} {z : Value} {x : Int} (h : MapIs w b f m) (ht : Tryz.prog.underlying t = some (.map 3 e)) (hz : (zeroValue e).run Tryz.prog w = .ok z w) (hx : Wf x) :
    (Instr.lookup t (.map (some b)) (.int .i64 x) c).run Tryz.prog w = .ok (if c then .tuple #[(f x).getD z, .bool (f x).isSome] else (f x).getD z) w := by
  obtain ⟨D, h1, h2, h3, h4, h5⟩ := h
  have hv : ∀ v ps, heldElem v = some (D.atKey (.int .i64 x) (.held z), ps) → v = (f x).getD z := fun v ps hv => by
    simp only [heldElem, Option.some.injEq, Prod.mk.injEq] at hv
    cases hf : f x with
    | some u =>
      rw [h4 x u hx hf] at hv
      have := hv.1
      injection this with this
    | none =>
      rw [Maps.atKey_of_not_has (by rw [h3 x hx, hf]; rfl)] at hv
      have := hv.1
      injection this with this
  cases c with
  | true =>
    obtain ⟨v, ps, hr, hR⟩ := h1.look_ok KI ht hz (zd := .held z) (zp := []) rfl (keyI hx)
    rw [hr, h3 x hx, hv v ps hR]
    rfl
  | false =>
    obtain ⟨v, ps, hr, hR⟩ := h1.lookup KI ht hz (zd := .held z) (zp := []) rfl (keyI hx)
    rw [hr, hv v ps hR]
    rfl
/-- What is laid in. -/
theorem MapIs.store {t e : TypeId} {x : Int} {v : Value} (h : MapIs w b f m) (ht : Tryz.prog.underlying t = some (.map 3 e)) (h1 : 1 ≤ x) (h6 : x ≤ 6) :
    ∃ w', (Instr.mapUpdate t (.map (some b)) (.int .i64 x) v).run Tryz.prog w = .ok () w' ∧ MapIs w' b (setF f x (some v)) (if (f x).isSome then m else m + 1) ∧ Turns (fun k => k = b) w w' := by
  have hs := h.small
  have hx := wf_deal h1 h6
  obtain ⟨D, k1, k2, k3, k4, k5⟩ := h
  obtain ⟨w', hr, ho, htu⟩ := k1.store KI ht (by unfold maxLen; omega) (keyI hx) (d := .held v) (ps := []) rfl
  have hsz : Maps.size (D.put (.int .i64 x) (.held v)) = if (f x).isSome then m else m + 1 := by
    rw [Maps.size_put (k1.tidy KI), k3 x hx, k2]
  refine ⟨w', hr, ⟨_, ?_, hsz, fun y hy => ?_, fun y u hy hu => ?_, fun y hy => ?_⟩, turned_turns htu⟩
  · rw [← hsz]; exact own_tight ho
  · by_cases e : y = x
    · subst e; rw [setF_same, Maps.has_put_same k1.isMap (key_lit hx)]; rfl
    · rw [setF_other _ _ e, Maps.has_put_other (key_ne e)]; exact k3 y hy
  · intro z
    by_cases e : y = x
    · subst e
      rw [setF_same] at hu
      rw [Maps.atKey_put_same k1.isMap (key_lit hx), Option.some.inj hu]
    · rw [setF_other _ _ e] at hu
      rw [Maps.atKey_put_other (key_ne e)]; exact k4 y u hy hu z
  · by_cases e : y = x
    · subst e; exact ⟨h1, h6⟩
    · rw [setF_other _ _ e] at hy; exact k5 y hy
/-- What is struck out. -/
theorem MapIs.drop {t e : TypeId} {x : Int} (h : MapIs w b f m) (ht : Tryz.prog.underlying t = some (.map 3 e)) (hx : Wf x) (ty : TypeId) :
    ∃ w' m', (Builtin.delete_ #[t, 3] ty #[.map (some b), .int .i64 x]).run Tryz.prog w = .ok (.tuple #[]) w' ∧ MapIs w' b (setF f x none) m' ∧ Turns (fun k => k = b) w w' := by
  obtain ⟨D, k1, k2, k3, k4, k5⟩ := h
  obtain ⟨w', hr, ho, htu⟩ := k1.drop KI ht (keyI hx) ty
  refine ⟨w', Maps.size (D.del (.int .i64 x)), hr, ⟨_, own_tight ho, rfl, fun y hy => ?_, fun y u hy hu => ?_, fun y hy => ?_⟩, turned_turns htu⟩
  · by_cases e : y = x
    · subst e; rw [setF_same, Maps.has_del_same]; rfl
    · rw [setF_other _ _ e, Maps.has_del_other (key_ne e)]; exact k3 y hy
  · intro z
    by_cases e : y = x
    · subst e
      rw [setF_same] at hu
      cases hu
    · rw [setF_other _ _ e] at hu
      rw [Maps.atKey_del_other (key_ne e)]; exact k4 y u hy hu z
  · by_cases e : y = x
    · subst e; rw [setF_same] at hy; cases hy
    · rw [setF_other _ _ e] at hy; exact k5 y hy
end
section
variable (w : World) {ops : Array Oper} {rest : List Oper} {o : Oper} {a : Act} {Q : Exit → Act → World → Prop}
theorem wp_drop (hg : o.guard = none) (p x : Operand) (t : TypeId) (hop : o.op = Op.call { callee := Callee.builtin Builtin.delete, args := #[p, x], argTypes := #[t, 3] })
    (e : TypeId) (ht : Tryz.prog.underlying t = some (.map 3 e)) (b m : Nat) (f : Int → Option Value) (hm : a.eval p = .map (some b)) (h : MapIs w b f m) (y : Int) (hx : a.eval x = .int .i64 y) (hy : Wf y)
    (hK : ∀ w' m', MapIs w' b (setF f y none) m' → Turns (fun k => k = b) w w' → wpList Tryz.prog ops Q rest (a.put o.dst (.tuple #[])) w') : wpList Tryz.prog ops Q (o :: rest) a w := by
  refine wpList_plain hg fun K' hK' => ?_
  obtain ⟨w', m', hrun, r1, r2⟩ := h.drop ht hy o.type
  unfold Oper.wp
  simp [execOp, hop, resolve, invoke, builtin, hm, hx, hrun, Result.andThen]
  exact hK' _ _ (hK w' m' r1 r2)
theorem wp_len (hg : o.guard = none) (p : Operand) (t : TypeId) (hop : o.op = Op.call { callee := Callee.builtin Builtin.len, args := #[p], argTypes := #[t] })
    (e : TypeId) (ht : Tryz.prog.underlying t = some (.map 3 e)) (b m : Nat) (f : Int → Option Value) (hm : a.eval p = .map (some b)) (h : MapIs w b f m)
    (hK : wpList Tryz.prog ops Q rest (a.put o.dst (.int .i64 m)) w) : wpList Tryz.prog ops Q (o :: rest) a w := by
  obtain ⟨D, k1, k2, -⟩ := h
  exact wpList_len_own w hg p t hop 3 e ht heldElem b m D hm k1 (by rw [k2]; exact hK)
theorem wp_store (hg : o.guard = none) (p x v : Operand) (t : TypeId) (hop : o.op = Op.mapUpdate t p x v)
    (e : TypeId) (ht : Tryz.prog.underlying t = some (.map 3 e)) (b m : Nat) (f : Int → Option Value) (hm : a.eval p = .map (some b)) (h : MapIs w b f m) (y : Int) (val : Value) (hx : a.eval x = .int .i64 y) (hv : a.eval v = val) (h1 : 1 ≤ y) (h6 : y ≤ 6)
    (hK : ∀ w', MapIs w' b (setF f y (some val)) (if (f y).isSome then m else m + 1) → Turns (fun k => k = b) w w' → wpList Tryz.prog ops Q rest (a.put o.dst undef) w') : wpList Tryz.prog ops Q (o :: rest) a w := by
  refine wpList_plain hg fun K' hK' => ?_
  obtain ⟨w', hrun, r1, r2⟩ := h.store (v := val) ht h1 h6
  unfold Oper.wp
  simp [execOp, hop, hm, hx, hv, hrun, Result.andThen]
  exact hK' _ _ (hK w' r1 r2)
theorem wp_look (hg : o.guard = none) (p x : Operand) (t : TypeId) (c : Bool) (hop : o.op = Op.lookup t p x c)
    (e : TypeId) (ht : Tryz.prog.underlying t = some (.map 3 e)) (z : Value) (hz : (zeroValue e).run Tryz.prog w = .ok z w) (b m : Nat) (f : Int → Option Value) (hm : a.eval p = .map (some b)) (h : MapIs w b f m) (y : Int) (hx : a.eval x = .int .i64 y) (hy : Wf y) (u : Value) (b0 : Bool) (hu : (f y).getD z = u) (hb : (f y).isSome = b0)
    (hK : wpList Tryz.prog ops Q rest (a.put o.dst (if c then .tuple #[u, .bool b0] else u)) w) : wpList Tryz.prog ops Q (o :: rest) a w := by
  refine wpList_plain hg fun K' hK' => ?_
  have hrun := h.look c ht hz hy
  rw [hu, hb] at hrun
  unfold Oper.wp
  simp only [execOp, hop, hm, hx, Sem.run_bind, hrun, Result.andThen]
  exact hK' _ _ hK
/-- Struck out, as one step of a region that draws. -/
theorem step_drop {K : Act → World → Prop} {E : Prop} (hg : o.guard = none) (p x : Operand) (t : TypeId) (hop : o.op = Op.call { callee := Callee.builtin Builtin.delete, args := #[p, x], argTypes := #[t, 3] })
    (e : TypeId) (ht : Tryz.prog.underlying t = some (.map 3 e)) (b m : Nat) (f : Int → Option Value) (hm : a.eval p = .map (some b)) (h : MapIs w b f m) (y : Int) (hx : a.eval x = .int .i64 y) (hy : Wf y)
    (hK : ∀ w' m', MapIs w' b (setF f y none) m' → Turns (fun k => k = b) w w' → K (a.put o.dst (.tuple #[])) w') : if Region.wanted o (yielded ops a.tmps) = true then Oper.wp Tryz.prog o a w K Q else E := by
  have hw : Region.wanted o (yielded ops a.tmps) = true := by simp [Region.wanted, hg]
  rw [if_pos hw]
  obtain ⟨w', m', hrun, r1, r2⟩ := h.drop ht hy o.type
  unfold Oper.wp
  simp [execOp, hop, resolve, invoke, builtin, hm, hx, hrun, Result.andThen]
  exact hK w' m' r1 r2
end
end Go.Proofs.YtmjjiehnjghndaaGreat

namespace Go.Proofs.YtmjjiehnjghndaaGreat
open Go.RowKit
open Go.Maps (Keyed)

/-- Where a deal stands among those that were aborted. -/
def posL : List Int → Int → Option Nat
  | [], _ => none
  | x :: r, t => if x = t then some 0 else (posL r t).map (· + 1)
def victF (l : List Int) (t : Int) : Option Value := (posL l t).map fun (k : Nat) => Value.int .i64 (k : Int)
theorem posL_some : ∀ (l : List Int) (t : Int), (posL l t).isSome = true ↔ t ∈ l := by
  intro l t
  induction l with
  | nil => simp [posL]
  | cons x r ih =>
    unfold posL
    by_cases e : x = t
    · simp [e]
    · rw [if_neg e]
      simp only [Option.isSome_map, List.mem_cons]
      rw [ih]
      constructor
      · exact .inr
      · rintro (h | h)
        · exact absurd h.symm e
        · exact h
theorem posL_at : ∀ {l : List Int} {t : Int} {k : Nat}, posL l t = some k → l[k]? = some t := by
  intro l
  induction l with
  | nil => intro t k h; cases h
  | cons x r ih =>
    intro t k h
    unfold posL at h
    split at h
    · rename_i e
      cases h
      simp [e]
    · cases hr : posL r t with
      | none => rw [hr] at h; cases h
      | some j =>
        rw [hr] at h
        cases h
        simpa using ih hr
theorem posL_snoc : ∀ {l : List Int} {t : Int}, t ∉ l → ∀ y, posL (l ++ [t]) y = setF (posL l) t (some l.length) y := by
  intro l t
  induction l with
  | nil =>
    intro _ y
    unfold setF
    by_cases e : y = t
    · simp [posL, e]
    · simp [posL, e, Ne.symm e]
  | cons x r ih =>
    intro h y
    rw [List.mem_cons, not_or] at h
    have h2 := ih h.2 y
    show posL (x :: (r ++ [t])) y = _
    unfold setF at h2 ⊢
    unfold posL
    by_cases e : y = t
    · subst e
      rw [if_pos rfl] at h2 ⊢
      rw [if_neg (Ne.symm h.1), h2]
      rfl
    · rw [if_neg e] at h2 ⊢
      rw [h2]
theorem victF_some (l : List Int) (t : Int) : (victF l t).isSome = decide (t ∈ l) := by
  have h1 : (victF l t).isSome = (posL l t).isSome := Option.isSome_map
  rw [h1]
  by_cases h : t ∈ l
  · rw [decide_eq_true h]; exact (posL_some l t).2 h
  · rw [decide_eq_false h]
    cases hp : (posL l t).isSome with
    | false => rfl
    | true => exact absurd ((posL_some l t).1 hp) h
theorem victF_snoc {l : List Int} {t : Int} (h : t ∉ l) (y : Int) : victF (l ++ [t]) y = setF (victF l) t (some (.int .i64 (l.length : Int))) y := by
  unfold victF
  rw [posL_snoc h]
  unfold setF
  split <;> rfl
/-- Numbers in a block. -/
def NumsAt (w : World) (S m : Nat) (vs : Nat → Int) : Prop := ∀ j, j < m → w.cell? ⟨S, j, none⟩ = some (.int .i64 (vs j)) ∧ w.frozen? ⟨S, j, none⟩ = false
theorem NumsAt.set {w : World} {S m : Nat} {vs : Nat → Int} (h : NumsAt w S m vs) {k : Nat} (hk : k < m) (x : Int) : NumsAt (w.setCell ⟨S, k, none⟩ (.int .i64 x)) S m (fun j => if j = k then x else vs j) := fun j hj => by
  obtain ⟨hc, hf⟩ := h j hj
  constructor
  · show _ = some (Value.int .i64 (if j = k then x else vs j))
    by_cases e : j = k
    · subst e
      rw [World.cell?_setCell_same _ _ _ hc, if_pos rfl]
    · rw [World.cell?_setCell_other _ _ _ _ (by intro he; injection he with _ he2 _; exact e he2.symm), hc, if_neg e]
  · simpa using hf
theorem nums_start {w : World} {base g m : Nat} {xs : List Value} (h : w.ownsRow base 3 1 (.slice (some ⟨g, 0, none⟩) m m) m xs) (hxs : xs = List.replicate m (Value.int .i64 0)) : NumsAt w g m fun _ => 0 := by
  subst hxs
  obtain ⟨_, ⟨hv, _⟩ | ⟨g', cap, cur, hv, _, hg, _, _, hsz, htk⟩⟩ := h
  · cases hv
  · simp only [Value.slice.injEq, Option.some.injEq, Addr.mk.injEq, and_true, true_and] at hv
    obtain ⟨rfl, rfl⟩ := hv
    intro j hj
    refine ⟨?_, by simp [World.frozen?, hg]⟩
    rw [cell_of_row w g j cur _ _ hg]
    have h1 : (cur.toList.take (m * 1))[j]? = some (Value.int .i64 0) := by rw [htk, List.getElem?_replicate, if_pos hj]
    rw [List.getElem?_take, if_pos (by omega), Array.getElem?_toList] at h1
    exact h1
theorem NumsAt.turn {w w1 : World} {S m : Nat} {vs : Nat → Int} {F : Nat → Prop} (h : NumsAt w S m vs) (ht : Turns F w w1) (hS : S < w.heap.size) (hF : ¬ F S) : NumsAt w1 S m vs := fun j hj =>
  ⟨(ht.cell (p := ⟨S, j, none⟩) hS hF).trans (h j hj).1, (World.frozen?_of_block (a := ⟨S, j, none⟩) (ht.block S hS hF)).trans (h j hj).2⟩
theorem NumsAt.ints {w : World} {S : Nat} {vs : Nat → Int} {l : List Int} (h : NumsAt w S l.length vs) (hS : S < w.heap.size) (he : ∀ j, j < l.length → vs j = l.getD j 0) : IsInts w (.slice (some ⟨S, 0, none⟩) l.length l.length) l :=
  ⟨some ⟨S, 0, none⟩, S, 0, l.length, rfl, fun _ => rfl, fun h => (by cases h), .inl hS, fun i hi => by rw [Nat.zero_add, (h i hi).1, he i hi]⟩
/-- The step of a loop over the map of those that were aborted. -/
theorem wp_next_outs (w : World) {ops : Array Oper} {rest : List Oper} {o : Oper} {a : Act} {Q : Exit → Act → World → Prop} (hg : o.guard = none) (it : Operand) (hop : o.op = Op.next it false) (b r n : Nat) (D : DataW Value) (left : Lit → Bool) (cnt : Nat) (l : List Int)
    (hit : a.eval it = .pointer (some ⟨r, 0, none⟩)) (h : w.ranges Tryz.prog 3 heldElem b r n D left cnt) (hh : ∀ x, Wf x → Maps.has D (.int .i64 x) = (victF l x).isSome) (hat : ∀ x v, Wf x → victF l x = some v → ∀ z, D.atKey (.int .i64 x) z = .held v)
    (hDone : cnt = 0 → (∀ kl, left kl = false) → wpList Tryz.prog ops Q rest (a.put o.dst (.tuple #[.bool false])) w)
    (hMore : ∀ (x : Int) (k : Nat) (w' : World) (cnt' : Nat), l[k]? = some x → w'.ranges Tryz.prog 3 heldElem b r n D (fun z => left z && !z.sameKey (.int .i64 x)) cnt' → cnt' < cnt →
      w.grownBy w' (some r) → w'.heap.size = w.heap.size → (Instr.entry (.pointer (some ⟨r, 0, none⟩))).run Tryz.prog w' = .ok (.tuple #[.int .i64 x, .int .i64 (k : Int)]) w' → wpList Tryz.prog ops Q rest (a.put o.dst (.tuple #[.bool true, .int .i64 x, .int .i64 (k : Int)])) w') :
    wpList Tryz.prog ops Q (o :: rest) a w := by
  refine wpList_next_ranges (α := Int) (β := Value) w hg it hop 3 KI heldElem (Value.int .i64) id (fun key kl hkey => by obtain ⟨x, rfl, _⟩ := Maps.keyOf_int_inv Tryz.underlying3 hkey; exact ⟨x, rfl⟩) (fun v y _ => ⟨v, rfl⟩) b r n D left cnt hit h hDone ?_
  intro x c kl y w' cnt' hkey hlk hv hat2 hrg hlt hgr hsz hen
  obtain ⟨x', ex, rfl, hwx⟩ := Maps.keyOf_int_inv Tryz.underlying3 hkey
  cases ex
  have hy : y.1 = .held c := by simp only [heldElem, id, Option.some.injEq] at hv; rw [← hv]
  have hhas := Maps.has_true_of_atKey hat2
  rw [hh x hwx] at hhas
  obtain ⟨u, hu⟩ := Option.isSome_iff_exists.1 hhas
  have hc : c = u := by
    have h1 := hat2 (.held c)
    rw [hat x u hwx hu, hy] at h1
    exact (DataW.held.inj h1).symm
  unfold victF at hu
  cases hp : posL l x with
  | none => rw [hp] at hu; cases hu
  | some k =>
    rw [hp] at hu
    have hu' : u = .int .i64 (k : Int) := (Option.some.inj hu).symm
    subst hc
    rw [hu'] at hen ⊢
    exact hMore x k w' cnt' (posL_at hp) hrg hlt hgr hsz hen
theorem nodupI_at {l : List Int} (h : l.Pairwise (· ≠ ·)) {i j : Nat} {x : Int} (hi : l[i]? = some x) (hj : l[j]? = some x) : i = j := by
  rcases Nat.lt_trichotomy i j with h1 | h1 | h1
  · obtain ⟨a1, a2⟩ := List.getElem?_eq_some_iff.1 hi
    obtain ⟨b1, b2⟩ := List.getElem?_eq_some_iff.1 hj
    exact absurd (a2.trans b2.symm) (List.pairwise_iff_getElem.1 h i j a1 b1 h1)
  · exact h1
  · obtain ⟨a1, a2⟩ := List.getElem?_eq_some_iff.1 hi
    obtain ⟨b1, b2⟩ := List.getElem?_eq_some_iff.1 hj
    exact absurd (b2.trans a2.symm) (List.pairwise_iff_getElem.1 h j i b1 a1 h1)
theorem made_zero (m : Nat) : (madeCells (Value.int .i64 0).cells (m * 1)).toList = List.replicate m (Value.int .i64 0) := by
  refine List.ext_getElem? fun j => ?_
  by_cases hj : j < m
  · simp [madeCells, Value.cells, Nat.mod_one, hj]
  · simp [madeCells, Value.cells, Nat.mod_one, hj]
/-- What has been laid so far. -/
def Laid (l : List Int) (left : Lit → Bool) (vs : Nat → Int) : Prop := ∀ j, j < l.length → left (.int .i64 (l.getD j 0)) = false → vs j = l.getD j 0
theorem Laid.step {l : List Int} {left : Lit → Bool} {vs : Nat → Int} (h : Laid l left vs) (hn : l.Pairwise (· ≠ ·)) {k : Nat} {x : Int} (hk : l[k]? = some x) : Laid l (fun z => left z && !z.sameKey (.int .i64 x)) fun j => if j = k then x else vs j := by
  intro j hj hl
  have hjd : l[j]? = some (l.getD j 0) := by simp [List.getD, hj]
  show (if j = k then x else vs j) = _
  have hl : (left (.int .i64 (l.getD j 0)) && !(Lit.int .i64 (l.getD j 0)).sameKey (.int .i64 x)) = false := hl
  by_cases e : j = k
  · subst e
    rw [if_pos rfl]
    rw [hk] at hjd
    exact Option.some.inj hjd
  · rw [if_neg e]
    cases hs : (Lit.int .i64 (l.getD j 0)).sameKey (.int .i64 x) with
    | true =>
      have h1 := WideAt.sameKey_eq hs
      injection h1 with _ h2
      rw [h2] at hjd
      exact absurd (nodupI_at hn hjd hk) e
    | false =>
      rw [hs] at hl
      exact h j hj (by simpa using hl)
end Go.Proofs.YtmjjiehnjghndaaGreat
