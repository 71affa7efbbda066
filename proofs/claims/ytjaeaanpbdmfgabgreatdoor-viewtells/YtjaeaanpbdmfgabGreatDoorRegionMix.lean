/-
  PROVED HERE: a region that draws its order: an operation that answers the same in every world of a class may be taken first, also where other operations answer differently from world to world, as long as all stay within the class.
  Conditions: none.
-/
import Derived.Test.YtjaeaanpbdmfgabGreatDoorMgak
namespace Go.Proofs.YtjaeaanpbdmfgabGreatDoor
open Go.RowKit

section
variable {P : Program} {ops : Array Oper} {md : Region.Mode} {C : World → Prop}

/-- What an operation yields in a world, whatever it is, goes on; the world stays in the class. -/
def looseUpon (P : Program) (C : World → Prop) (w : World) (K : Value → Prop) : Result Next → Prop
  | .ok (.value u) w' => w' = w ∧ K u
  | .ok .skip w' => w' = w ∧ K undef
  | .ok (.enter f args) w' => w' = w ∧ Calls P f args w (fun e w'' => ∃ u, e = .returned u ∧ C w'' ∧ K u)
  | _ => False
theorem looseUpon_mono {w : World} {K K' : Value → Prop} (h : ∀ u, K u → K' u) : ∀ {r : Result Next}, looseUpon P C w K r → looseUpon P C w K' r := by
  intro r hr
  cases r with
  | ok n w' =>
    cases n <;> simp only [looseUpon] at hr ⊢
    case value u => exact ⟨hr.1, h _ hr.2⟩
    case skip => exact ⟨hr.1, h _ hr.2⟩
    case enter f args => exact ⟨hr.1, hr.2.mono fun e w'' ⟨u, h1, h2, h3⟩ => ⟨u, h1, h2, h _ h3⟩⟩
  | halt x w' => simp only [looseUpon] at hr
theorem looseUpon_of_quiet {w : World} {v : Value} {K : Value → Prop} (hk : K v) : ∀ {r : Result Next}, Oper.quietUpon P C w v r → looseUpon P C w K r := by
  intro r hr
  cases r with
  | ok n w' =>
    cases n <;> simp only [Oper.quietUpon] at hr <;> simp only [looseUpon]
    case value u => exact ⟨hr.1, by rw [hr.2]; exact hk⟩
    case skip => exact ⟨hr.1, by rw [← hr.2]; exact hk⟩
    case enter f args => exact ⟨hr.1, hr.2.mono fun e w'' ⟨h1, h2⟩ => ⟨v, h1, h2, hk⟩⟩
  | halt x w' => simp only [Oper.quietUpon] at hr
def looseOp (P : Program) (o : Oper) (a : Act) (C : World → Prop) (next : Act → Prop) : Prop := ∀ w, C w → looseUpon P C w (fun u => next (a.put o.dst u)) ((execOp a.eval o).run P w)
def lOp (P : Program) (ops : Array Oper) (C : World → Prop) (i : Nat) (K : Act → Prop) (a : Act) : Prop :=
  match ops[i]? with
  | none => K a
  | some o => if Region.wanted o (yielded ops a.tmps) then looseOp P o a C K else K (a.put o.dst undef)
theorem lOp_mono {i : Nat} {a : Act} {K K' : Act → Prop} (h : ∀ a, K a → K' a) (hh : lOp P ops C i K a) : lOp P ops C i K' a := by
  unfold lOp at *
  split
  · exact h _ (by simpa [*] using hh)
  · rename_i o ho
    simp only [ho] at hh
    split
    · rename_i hw
      simp only [hw, if_true] at hh
      exact fun w hw' => looseUpon_mono (fun u hu => h _ hu) (hh w hw')
    · rename_i hw; simp only [hw] at hh; exact h _ hh
def wpAnyL (P : Program) (md : Region.Mode) (ops : Array Oper) (C : World → Prop) (Q : Act → Prop) : Nat → Array Bool → Act → Prop
  | 0, listed, a => Region.ready md ops listed = [] ∧ Q a
  | fuel + 1, listed, a => (Region.ready md ops listed = [] → Q a) ∧ ∀ i ∈ Region.ready md ops listed, lOp P ops C i (wpAnyL P md ops C Q fuel (listed.setIfInBounds i true)) a
theorem wp_of_loose {o : Oper} {a : Act} {K : Act → Prop} {K' : Act → World → Prop} {Q' : Exit → Act → World → Prop} {w : World} (hw : C w) (h : ∀ a w', C w' → K a → K' a w') (hh : looseOp P o a C K) : o.wp P a w K' Q' := by
  have h3 := hh w hw
  unfold Oper.wp
  generalize (execOp a.eval o).run P w = r at *
  cases r with
  | ok n w' =>
    cases n <;> simp only [looseUpon] at h3 <;> simp only [Oper.upon]
    case value u =>
      rw [h3.1]
      exact h _ _ hw h3.2
    case skip =>
      rw [h3.1]
      exact h _ _ hw h3.2
    case enter f args =>
      obtain ⟨e1, hc⟩ := h3
      rw [e1]
      exact hc.mono fun e w'' ⟨u, he, hw'', hk⟩ => by subst he; exact h _ _ hw'' hk
  | halt x w' => simp only [looseUpon] at h3
theorem wpOp_of_lOp {i : Nat} {a : Act} {K : Act → Prop} {K' : Act → World → Prop} {Q' : Exit → Act → World → Prop} {w : World} (hC : C w) (h : ∀ a w', C w' → K a → K' a w') (hh : lOp P ops C i K a) : wpOp P ops Q' i K' a w := by
  unfold lOp at hh
  unfold wpOp
  split
  · rename_i ho; simp only [ho] at hh; exact h _ _ hC hh
  · rename_i o ho
    simp only [ho] at hh
    split
    · rename_i hw; simp only [hw, if_true] at hh; exact .inl (wp_of_loose hC h hh)
    · rename_i hw; simp only [hw] at hh; exact h _ _ hC hh
theorem wpAny_of_loose {Q : Act → Prop} {Q' : Exit → Act → World → Prop} (hQ : ∀ a w, C w → Q a → Q' .normal a w) : ∀ (fuel : Nat) (listed : Array Bool) (a : Act) (w : World), C w →
    wpAnyL P md ops C Q fuel listed a → wpAny P md ops Q' fuel listed a w
  | 0, _, _, _, hw, h => ⟨h.1, hQ _ _ hw h.2⟩
  | fuel + 1, _, _, _, hw, h => ⟨fun h0 => hQ _ _ hw (h.1 h0), fun i hi => wpOp_of_lOp hw (fun a' w' hw' => wpAny_of_loose hQ fuel _ a' w' hw') (h.2 i hi)⟩
theorem yields_lOp {i : Nat} {o : Oper} {v : Value} {a : Act} (hi : ops[i]? = some o) (hy : YieldsIn P ops C o v a) {K : Act → Prop} (h : K (a.put o.dst v)) : lOp P ops C i K a := by
  unfold lOp
  simp only [hi]
  rcases hy with ⟨hw, hv⟩ | ⟨hw, rfl⟩
  · simp only [hw, if_true]; exact fun w hw' => looseUpon_of_quiet h (hv w hw')
  · simp only [hw, Bool.false_eq_true, if_false]; exact h
theorem lOp_put {j : Nat} {oi oj : Oper} {v : Value} (hj : ops[j]? = some oj) (hap : oi.apart ops oj = true)
    (hsi : ∀ cs b, oi.op ≠ .select cs b) (hsj : ∀ cs b, oj.op ≠ .select cs b) {K : Act → Prop} {a : Act}
    (hy : YieldsIn P ops C oi v a) (h : lOp P ops C j K (a.put oi.dst v)) :
    lOp P ops C j (fun a' => YieldsIn P ops C oi v a' ∧ K (a'.put oi.dst v)) a := by
  obtain ⟨h1, h2, h3⟩ := Oper.apart_spec hap
  have keep : ∀ (a : Act), YieldsIn P ops C oi v a → ∀ u, YieldsIn P ops C oi v (a.put oj.dst u) := fun a hy u =>
    hy.of_same (execOp_put oi hsi a oj.dst u h3) (wanted_put oi a oj.dst u h3)
  unfold lOp at *
  simp only [hj] at *
  rw [wanted_put oj a oi.dst v h1] at h
  split
  · rename_i hw
    simp only [hw, if_true] at h
    intro w hw'
    have h4 := h w hw'
    rw [execOp_put oj hsj a oi.dst v h1] at h4
    exact looseUpon_mono (fun u hu => ⟨keep a hy u, by rw [← Act.put_comm a v u h2]; exact hu⟩) h4
  · rename_i hw
    simp only [hw] at h
    exact ⟨keep a hy _, by rw [← Act.put_comm a v undef h2]; exact h⟩
/-- Operation i is up, answers v in every world of the class, and whatever is still to come either waits for it or lies apart. -/
structure Takes (P : Program) (md : Region.Mode) (ops : Array Oper) (C : World → Prop) (i : Nat) (o : Oper) (v : Value) (listed : Array Bool) (a : Act) : Prop where
  up : i ∈ Region.ready md ops listed
  says : YieldsIn P ops C o v a
  free : ∀ k p, ops[k]? = some p → k ≠ i → listed.getD k true = false → (∀ e ∈ p.after, Region.binds md e = true → e.on ≠ i) → o.apart ops p = true
theorem Takes.unlisted {i : Nat} {o : Oper} {v : Value} {listed : Array Bool} {a : Act} (T : Takes P md ops C i o v listed a) : listed[i]? = some false := by
  have h := (mem_ready.1 T.up).1
  cases hl : listed[i]? with
  | none => rw [Array.getD_eq_getD_getElem?, hl] at h; cases h
  | some q => rw [Array.getD_eq_getD_getElem?, hl] at h; exact congrArg some h
/-- Another one that is up lies apart from it. -/
theorem Takes.other {i j : Nat} {o : Oper} {v : Value} {listed : Array Bool} {a : Act} (T : Takes P md ops C i o v listed a) (hj : j ∈ Region.ready md ops listed) (hne : j ≠ i) : ∃ p, ops[j]? = some p ∧ o.apart ops p = true := by
  obtain ⟨hun, p, hp, hall⟩ := mem_ready.1 hj
  refine ⟨p, hp, T.free j p hp hne hun fun e he hb hon => ?_⟩
  have := hall e he hb
  rw [hon, Array.getD_eq_getD_getElem?, T.unlisted] at this
  simp at this
/-- When the other one has come up, the first one still may. -/
theorem Takes.on {i j : Nat} {o : Oper} {v : Value} {listed : Array Bool} {a b : Act} (T : Takes P md ops C i o v listed a) (hj : j ∈ Region.ready md ops listed) (hne : j ≠ i) (hb : YieldsIn P ops C o v b) : Takes P md ops C i o v (listed.setIfInBounds j true) b where
  up := ready_mono T.up (Ne.symm hne)
  says := hb
  free := fun k p hp hk hun hno => T.free k p hp hk (by
    by_cases e : j = k
    · exact e ▸ (mem_ready.1 hj).1
    · exact (getD_set_ne true e).symm.trans hun) hno
theorem takes_first {Q : Act → Prop} {i : Nat} {o : Oper} {v : Value} (hi : ops[i]? = some o) (hsel : ∀ (j : Nat) (p : Oper) cs b, ops[j]? = some p → p.op ≠ .select cs b) :
    ∀ (fuel : Nat) (listed : Array Bool) (a : Act), Takes P md ops C i o v listed a → wpAnyL P md ops C Q fuel (listed.setIfInBounds i true) (a.put o.dst v) → wpAnyL P md ops C Q (fuel + 1) listed a
  | fuel, listed, a, T, H => ⟨fun h0 => absurd T.up (by simp [h0]), fun j hj => by
    rcases Nat.decEq j i with hne | he
    · obtain ⟨p, hp, hap⟩ := T.other hj hne
      match fuel, H with
      | 0, H => exact absurd (ready_mono hj hne) (by simp [H.1])
      | fuel + 1, H =>
        refine lOp_mono (fun b hb => takes_first hi hsel fuel _ b (T.on hj hne hb.1) ?_) (lOp_put hp hap (fun cs b => hsel i o cs b hi) (fun cs b => hsel j p cs b hp) T.says (H.2 j (ready_mono hj hne)))
        rw [Array.setIfInBounds_comm _ _ hne]
        exact hb.2
    · exact he ▸ yields_lOp (he ▸ hi) T.says (he ▸ H)⟩
/-- A quiet operation is taken first. -/
theorem mix_take {Q : Act → Prop} {fuel : Nat} {listed : Array Bool} {a : Act} (i : Nat) (o : Oper) (hi : ops[i]? = some o) (hs : Region.noSelect ops = true) (hf : Region.free md ops listed i = true) (hr : (Region.ready md ops listed).contains i = true)
    (hw : Region.wanted o (yielded ops a.tmps) = true) (h : ∀ K : Act → Prop, (∀ a, wpAnyL P md ops C Q fuel (listed.setIfInBounds i true) a → K a) → o.quiet P a C K) : wpAnyL P md ops C Q (fuel + 1) listed a := by
  obtain ⟨v, h1, h2⟩ := h _ (fun _ hh => hh)
  exact takes_first hi (Region.noSelect_spec hs) fuel listed a ⟨by simpa using hr, .inl ⟨hw, h1⟩, Region.free_spec hi hf⟩ h2
/-- Two that may come up: either may be next. -/
theorem mix_two {Q : Act → Prop} {fuel : Nat} {listed : Array Bool} {a : Act} (i j : Nat) (hr : Region.ready md ops listed = [i, j])
    (h1 : lOp P ops C i (wpAnyL P md ops C Q fuel (listed.setIfInBounds i true)) a) (h2 : lOp P ops C j (wpAnyL P md ops C Q fuel (listed.setIfInBounds j true)) a) : wpAnyL P md ops C Q (fuel + 1) listed a :=
  ⟨fun h => (by rw [hr] at h; cases h), fun k hk => by
    rw [hr] at hk
    rcases List.mem_cons.1 hk with rfl | hk
    · exact h1
    · rcases List.mem_cons.1 hk with rfl | hk
      · exact h2
      · cases hk⟩
theorem mix_one {Q : Act → Prop} {fuel : Nat} {listed : Array Bool} {a : Act} (i : Nat) (hr : Region.ready md ops listed = [i])
    (h1 : lOp P ops C i (wpAnyL P md ops C Q fuel (listed.setIfInBounds i true)) a) : wpAnyL P md ops C Q (fuel + 1) listed a :=
  ⟨fun h => (by rw [hr] at h; cases h), fun k hk => by
    rw [hr] at hk
    rcases List.mem_cons.1 hk with rfl | hk
    · exact h1
    · cases hk⟩
theorem lOp_call {i : Nat} {o : Oper} {a : Act} {K : Act → Prop} (hi : ops[i]? = some o) (hw : Region.wanted o (yielded ops a.tmps) = true) (f : FuncId) (args : Array Value) (hrun : ∀ w, (execOp a.eval o).run P w = .ok (.enter f args) w)
    (h : ∀ w, C w → Calls P f args w (fun e w'' => ∃ u, e = .returned u ∧ C w'' ∧ K (a.put o.dst u))) : lOp P ops C i K a := by
  unfold lOp
  simp only [hi, hw, if_true]
  intro w hC
  rw [hrun w]
  exact ⟨rfl, h w hC⟩
theorem mix_done {Q : Act → Prop} {listed : Array Bool} {a : Act} (hr : Region.ready md ops listed = []) (h : Q a) : ∀ fuel, wpAnyL P md ops C Q fuel listed a
  | 0 => ⟨hr, h⟩
  | _ + 1 => ⟨fun _ => h, by rw [hr]; simp⟩
end
/-- The whole region, in the class of the worlds in which all that is old is as it was. -/
theorem region_mix {P : Program} {id : Nat} {Q : Exit → Act → World → Prop} {a : Act} {w : World} {l : List Oper} (B n : Nat) (hm : P.follows .mixedOrders = true) (hn : l.toArray.size = n)
    (h : wpAnyL P .any l.toArray (fun w' => ∃ x : Later B w, w' = x.W) (fun a' => ∀ w', (∃ x : Later B w, w' = x.W) → Q .normal a' w') n (Array.replicate n false) a) : (Code.region id l.toArray true).wp P Q a w := by
  subst hn
  exact wp_region_any hm (wpAny_of_loose (Q := fun a' => ∀ w', (∃ x : Later B w, w' = x.W) → Q .normal a' w') (fun _ w' hw' h => h w' hw') _ _ _ _ ⟨⟨w.drew, (Below.refl B w).drew⟩, rfl⟩ h)
end Go.Proofs.YtjaeaanpbdmfgabGreatDoor
