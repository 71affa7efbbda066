/-
  PROVED HERE: a map from whole numbers to whatever it holds, as package strict keeps three of them, said key by key: what is looked up, laid in, struck out, counted, met one by one.
  Conditions: its keys are 1 to 6.
  (Of these, what the claim wants: the rest was left out.)
-/
import Derived.Test.YtaodbljpihcjnaaDoorLocksMem
import Derived.Test.YtaodbljpihcjnaaDoorStrictPlain
import Derived.Maps.OwnSet
import Derived.Maps.RangeWalk
namespace Go.Proofs.YtaodbljpihcjnaaDoor
open Go.RowKit
open Go.Maps (Keyed)

/-- An element, as it is. -/
def heldElem (v : Value) : Option (DataW Value × List MemPlace) := some (.held v, [])
theorem KI : Keyed Tryd.prog 3 := Maps.int_keyed Tryd.underlying3
abbrev Wf (x : Int) : Prop := (Lit.int .i64 x).wf = true
theorem wf_deal {x : Int} (h1 : 1 ≤ x) (h6 : x ≤ 6) : Wf x := WalkArith.wf_i64 (by omega)
theorem keyI {x : Int} (h : Wf x) : keyOf Tryd.prog 3 (.int .i64 x) = some (.int .i64 x) := Maps.keyOf_int_mk Tryd.underlying3 h
/-- A map in memory, key by key. -/
def MapIs (w : World) (b : Nat) (f : Int → Option Value) (m : Nat) : Prop :=
  ∃ D : DataW Value, w.ownsMap Tryd.prog 3 heldElem b m D ∧ Maps.size D = m ∧ (∀ x, Wf x → Maps.has D (.int .i64 x) = (f x).isSome) ∧ (∀ x v, Wf x → f x = some v → ∀ z, D.atKey (.int .i64 x) z = .held v) ∧ ∀ x, (f x).isSome = true → 1 ≤ x ∧ x ≤ 6
theorem lits_len : ∀ (l m : List Lit), l.Pairwise (· ≠ ·) → (∀ x ∈ l, x ∈ m) → l.length ≤ m.length := by
  intro l
  induction l with
  | nil => intro m _ _; exact Nat.zero_le _
  | cons x r ih =>
    intro m hp hm
    rw [List.pairwise_cons] at hp
    obtain ⟨a, b, rfl⟩ := List.append_of_mem (hm x List.mem_cons_self)
    have h1 := ih (a ++ b) hp.2 fun y hy => by
      have h2 := hm y (List.mem_cons_of_mem _ hy)
      rw [List.mem_append, List.mem_cons] at h2
      rw [List.mem_append]
      rcases h2 with h2 | h2 | h2
      · exact .inl h2
      · exact absurd h2.symm (hp.1 y hy)
      · exact .inr h2
    simp only [List.length_append, List.length_cons] at h1 ⊢
    omega
theorem own_tight {w : World} {b n : Nat} {D : DataW Value} (h : w.ownsMap Tryd.prog 3 heldElem b n D) : w.ownsMap Tryd.prog 3 heldElem b (Maps.size D) D := by
  obtain ⟨es, clock, hb, F, hs, rfl⟩ := h
  refine ⟨es, clock, hb, F, ?_, rfl⟩
  simp [Maps.size, length_sorted]
theorem own_int {w : World} {b n : Nat} {D : DataW Value} (h : w.ownsMap Tryd.prog 3 heldElem b n D) : ∃ es, D = .map es ∧ es.Pairwise (fun p q => p.1 ≠ q.1) ∧ ∀ p ∈ es, ∃ x, Wf x ∧ p.1 = .int .i64 x ∧ Maps.has D p.1 = true := by
  obtain ⟨es, h1, h2, h3⟩ := h.entries KI
  refine ⟨es, h1, h2, fun p hp => ?_⟩
  have hh : Maps.has D p.1 = true := by rw [h1]; exact List.any_eq_true.2 ⟨p, hp, WideAt.sameKey_self (h3 p hp)⟩
  obtain ⟨ms, clock, hb, F, hs, hD⟩ := h
  rw [h1] at hD
  have hD' : es = (ms.toList.map (WideElems.rg Tryd.prog 3 heldElem)).foldr DataW.insert [] := by injection hD
  rw [hD', mem_sorted] at hp
  obtain ⟨e, he, rfl⟩ := List.mem_map.1 hp
  obtain ⟨y, hy⟩ := F.reads e he
  obtain ⟨x, -, hx, hw⟩ := Maps.keyOf_int_inv Tryd.underlying3 (WideElems.rd_key hy)
  exact ⟨x, hw, by rw [WideElems.rg_of hy]; exact hx, hh⟩
section
variable {w w1 : World} {b m : Nat} {f : Int → Option Value}
theorem MapIs.lt (h : MapIs w b f m) : b < w.heap.size := by obtain ⟨D, h1, _⟩ := h; exact h1.lt
theorem MapIs.small (h : MapIs w b f m) : m ≤ 6 := by
  obtain ⟨D, h1, h2, h3, h4, h5⟩ := h
  obtain ⟨es, e1, e2, e3⟩ := own_int h1
  have h6 := lits_len (es.map (·.1)) [.int .i64 1, .int .i64 2, .int .i64 3, .int .i64 4, .int .i64 5, .int .i64 6] (List.pairwise_map.2 e2) fun k hk => by
    obtain ⟨p, hp, rfl⟩ := List.mem_map.1 hk
    obtain ⟨x, hw, hx, hh⟩ := e3 p hp
    rw [hx] at hh
    rw [h3 x hw] at hh
    have h7 := h5 x hh
    rw [hx]
    rcases six h7.1 h7.2 with rfl | rfl | rfl | rfl | rfl | rfl <;> simp
  rw [← h2, e1]
  simpa [Maps.size] using h6
theorem MapIs.turn {F : Nat → Prop} (h : MapIs w b f m) (ht : Turns F w w1) (hF : ¬ F b) : MapIs w1 b f m := by
  have hl := h.lt
  obtain ⟨D, ⟨es, clock, hb, r⟩, h2⟩ := h
  exact ⟨D, ⟨es, clock, (ht.block b hl hF).trans hb, r⟩, h2⟩
theorem MapIs.drew (h : MapIs w b f m) : MapIs w.drew b f m := h
theorem MapIs.congr {g : Int → Option Value} (h : MapIs w b f m) (e : ∀ x, g x = f x) : MapIs w b g m := by
  obtain rfl : g = f := funext e
  exact h
theorem mapIs_made (w : World) : MapIs (w.alloc (.map #[] 0)) w.heap.size (fun _ => none) 0 :=
  ⟨.map [], World.ownsMap_made w _ _ _, rfl, fun x _ => rfl, fun x v _ h => (by cases h), fun x h => (by cases h)⟩
theorem turned_turns {w' : World} (h : w.mapTurned w' b) : Turns (fun k => k = b) w w' := (Turns.refl _ w).grown h.grown fun _ hk => .inl (Option.some.inj hk).symm
theorem key_ne {x y : Int} (h : x ≠ y) : Lit.int .i64 x ≠ Lit.int .i64 y := fun e => h (by injection e)
theorem key_lit {x : Int} (h : Wf x) : WideAt.IsKeyLit (.int .i64 x) := KI.key (keyI h)
/-- What is looked up. -/
theorem MapIs.look (c : Bool) {t e : TypeId} {z : Value} {x : Int} (h : MapIs w b f m) (ht : Tryd.prog.underlying t = some (.map 3 e)) (hz : (zeroValue e).run Tryd.prog w = .ok z w) (hx : Wf x) :
    (Instr.lookup t (.map (some b)) (.int .i64 x) c).run Tryd.prog w = .ok (if c then .tuple #[(f x).getD z, .bool (f x).isSome] else (f x).getD z) w := by
  obtain ⟨D, h1, h2, h3, h4, h5⟩ := h
  have hv : ∀ v ps, heldElem v = some (D.atKey (.int .i64 x) (.held z), ps) → v = (f x).getD z := fun v ps hv => by
    simp only [heldElem, Option.some.injEq, Prod.mk.injEq] at hv
    cases hf : f x with
    | some u =>
      rw [h4 x u hx hf] at hv
      have := hv.1
      injection this with this
    | none =>
      rw [Maps.atKey_of_not_has (by rw [h3 x hx, hf]; rfl)] at hv
      have := hv.1
      injection this with this
  cases c with
  | true =>
    obtain ⟨v, ps, hr, hR⟩ := h1.look_ok KI ht hz (zd := .held z) (zp := []) rfl (keyI hx)
    rw [hr, h3 x hx, hv v ps hR]
    rfl
  | false =>
    obtain ⟨v, ps, hr, hR⟩ := h1.lookup KI ht hz (zd := .held z) (zp := []) rfl (keyI hx)
    rw [hr, hv v ps hR]
    rfl
/-- What is laid in. -/
theorem MapIs.store {t e : TypeId} {x : Int} {v : Value} (h : MapIs w b f m) (ht : Tryd.prog.underlying t = some (.map 3 e)) (h1 : 1 ≤ x) (h6 : x ≤ 6) :
    ∃ w', (Instr.mapUpdate t (.map (some b)) (.int .i64 x) v).run Tryd.prog w = .ok () w' ∧ MapIs w' b (setF f x (some v)) (if (f x).isSome then m else m + 1) ∧ Turns (fun k => k = b) w w' := by
  have hs := h.small
  have hx := wf_deal h1 h6
  obtain ⟨D, k1, k2, k3, k4, k5⟩ := h
  obtain ⟨w', hr, ho, htu⟩ := k1.store KI ht (by unfold maxLen; omega) (keyI hx) (d := .held v) (ps := []) rfl
  have hsz : Maps.size (D.put (.int .i64 x) (.held v)) = if (f x).isSome then m else m + 1 := by
    rw [Maps.size_put (k1.tidy KI), k3 x hx, k2]
  refine ⟨w', hr, ⟨_, ?_, hsz, fun y hy => ?_, fun y u hy hu => ?_, fun y hy => ?_⟩, turned_turns htu⟩
  · rw [← hsz]; exact own_tight ho
  · by_cases e : y = x
    · subst e; rw [setF_same, Maps.has_put_same k1.isMap (key_lit hx)]; rfl
    · rw [setF_other _ _ e, Maps.has_put_other (key_ne e)]; exact k3 y hy
  · intro z
    by_cases e : y = x
    · subst e
      rw [setF_same] at hu
      rw [Maps.atKey_put_same k1.isMap (key_lit hx), Option.some.inj hu]
    · rw [setF_other _ _ e] at hu
      rw [Maps.atKey_put_other (key_ne e)]; exact k4 y u hy hu z
  · by_cases e : y = x
    · subst e; exact ⟨h1, h6⟩
    · rw [setF_other _ _ e] at hy; exact k5 y hy
/-- What is struck out. -/
theorem MapIs.drop {t e : TypeId} {x : Int} (h : MapIs w b f m) (ht : Tryd.prog.underlying t = some (.map 3 e)) (hx : Wf x) (ty : TypeId) :
    ∃ w' m', (Builtin.delete_ #[t, 3] ty #[.map (some b), .int .i64 x]).run Tryd.prog w = .ok (.tuple #[]) w' ∧ MapIs w' b (setF f x none) m' ∧ Turns (fun k => k = b) w w' := by
  obtain ⟨D, k1, k2, k3, k4, k5⟩ := h
  obtain ⟨w', hr, ho, htu⟩ := k1.drop KI ht (keyI hx) ty
  refine ⟨w', Maps.size (D.del (.int .i64 x)), hr, ⟨_, own_tight ho, rfl, fun y hy => ?_, fun y u hy hu => ?_, fun y hy => ?_⟩, turned_turns htu⟩
  · by_cases e : y = x
    · subst e; rw [setF_same, Maps.has_del_same]; rfl
    · rw [setF_other _ _ e, Maps.has_del_other (key_ne e)]; exact k3 y hy
  · intro z
    by_cases e : y = x
    · subst e
      rw [setF_same] at hu
      cases hu
    · rw [setF_other _ _ e] at hu
      rw [Maps.atKey_del_other (key_ne e)]; exact k4 y u hy hu z
  · by_cases e : y = x
    · subst e; rw [setF_same] at hy; cases hy
    · rw [setF_other _ _ e] at hy; exact k5 y hy
end
section
variable (w : World) {ops : Array Oper} {rest : List Oper} {o : Oper} {a : Act} {Q : Exit → Act → World → Prop}
theorem wp_drop (hg : o.guard = none) (p x : Operand) (t : TypeId) (hop : o.op = Op.call { callee := Callee.builtin Builtin.delete, args := #[p, x], argTypes := #[t, 3] })
    (e : TypeId) (ht : Tryd.prog.underlying t = some (.map 3 e)) (b m : Nat) (f : Int → Option Value) (hm : a.eval p = .map (some b)) (h : MapIs w b f m) (y : Int) (hx : a.eval x = .int .i64 y) (hy : Wf y)
    (hK : ∀ w' m', MapIs w' b (setF f y none) m' → Turns (fun k => k = b) w w' → wpList Tryd.prog ops Q rest (a.put o.dst (.tuple #[])) w') : wpList Tryd.prog ops Q (o :: rest) a w := by
  refine wpList_plain hg fun K' hK' => ?_
  obtain ⟨w', m', hrun, r1, r2⟩ := h.drop ht hy o.type
  unfold Oper.wp
  simp [execOp, hop, resolve, invoke, builtin, hm, hx, hrun, Result.andThen]
  exact hK' _ _ (hK w' m' r1 r2)
theorem wp_look (hg : o.guard = none) (p x : Operand) (t : TypeId) (c : Bool) (hop : o.op = Op.lookup t p x c)
    (e : TypeId) (ht : Tryd.prog.underlying t = some (.map 3 e)) (z : Value) (hz : (zeroValue e).run Tryd.prog w = .ok z w) (b m : Nat) (f : Int → Option Value) (hm : a.eval p = .map (some b)) (h : MapIs w b f m) (y : Int) (hx : a.eval x = .int .i64 y) (hy : Wf y) (u : Value) (b0 : Bool) (hu : (f y).getD z = u) (hb : (f y).isSome = b0)
    (hK : wpList Tryd.prog ops Q rest (a.put o.dst (if c then .tuple #[u, .bool b0] else u)) w) : wpList Tryd.prog ops Q (o :: rest) a w := by
  refine wpList_plain hg fun K' hK' => ?_
  have hrun := h.look c ht hz hy
  rw [hu, hb] at hrun
  unfold Oper.wp
  simp only [execOp, hop, hm, hx, Sem.run_bind, hrun, Result.andThen]
  exact hK' _ _ hK
end
end Go.Proofs.YtaodbljpihcjnaaDoor
