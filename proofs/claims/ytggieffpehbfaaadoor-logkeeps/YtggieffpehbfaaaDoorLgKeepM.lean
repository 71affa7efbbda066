/-
  PROVED HERE: a Log beside rows of one's own: what its methods do to it, and that such rows stay as they were, over any way in which a Log may lie in memory of its own.
  Conditions: package log's contract (LogW).
  (Of these, what the claim wants: the rest was left out.)
-/
import Derived.Test.YtggieffpehbfaaaDoorLgAsk
import Derived.Test.YtggieffpehbfaaaDoorLgKeepP
import Derived.Test.YtggieffpehbfaaaDoorAppendSrc
namespace Go.Proofs.YtggieffpehbfaaaDoor
open Go.RowKit

/-- A row of one's own that lies apart from a Log's blocks. -/
def RowA (w0 W : World) (F : Nat → Prop) (e : TypeId) (size : Nat) (v : Value) (n : Nat) (xs : List Value) : Prop := W.ownsRow w0.heap.size e size v n xs ∧ ∀ g, v.ownBlock = some g → ¬ F g
structure LgF (Rep : World → Nat → Lg → (Nat → Prop) → Prop) (w0 W : World) (p : Nat) (s : Lg) (F : Nat → Prop) : Prop where
  ok : LgOk s
  old : Below w0.heap.size w0 W
  rep : Rep W p s F
  far : ∀ k, F k → w0.heap.size ≤ k
/-- What lay apart does so still. -/
def CarryA (w0 W : World) (F : Nat → Prop) (W1 : World) (F1 : Nat → Prop) : Prop := ∀ e size v n xs, RowA w0 W F e size v n xs → RowA w0 W1 F1 e size v n xs
section
variable {Rep : World → Nat → Lg → (Nat → Prop) → Prop} {w0 W W1 : World} {p : Nat} {s s1 : Lg} {F F1 : Nat → Prop}
theorem carry_turn (ht : Turns F W W1) (hf : ∀ k, F1 k → F k ∨ W.heap.size ≤ k) : CarryA w0 W F W1 F1 := fun e size v n xs ⟨h1, h2⟩ => ⟨ht.own h1 h2, fun g hg hF => by
  rcases hf g hF with h | h
  · exact h2 g hg h
  · have := (h1.lt g hg).2; omega⟩
theorem carry_below (hb : Below W.heap.size W W1) : CarryA w0 W F W1 F := fun _ _ _ _ _ ⟨h1, h2⟩ => ⟨own_below h1 hb (Nat.le_refl _), h2⟩
theorem LgF.turn (h : LgF Rep w0 W p s F) (hok : LgOk s1) (hr : Rep W1 p s1 F1) (ht : Turns F W W1) (hf : ∀ k, F1 k → F k ∨ W.heap.size ≤ k) : LgF Rep w0 W1 p s1 F1 :=
  ⟨hok, h.old.trans (ht.below h.old.size fun k hk hF => by have := h.far k hF; omega), hr, fun k hk => by
    rcases hf k hk with h5 | h5
    · exact h.far k h5
    · exact Nat.le_trans h.old.size h5⟩
theorem LgF.below (hR : LogW Rep) (h : LgF Rep w0 W p s F) (hb : Below W.heap.size W W1) : LgF Rep w0 W1 p s F :=
  ⟨h.ok, h.old.trans (hb.mono h.old.size), hR.later W W1 p s F (fun _ => False) h.rep (Turns.of_below hb) (fun _ _ hf => hf), h.far⟩
/-- A row that lies apart grows. -/
theorem LgF.grown (hR : LogW Rep) (h : LgF Rep w0 W p s F) {e size n : Nat} {v : Value} {xs : List Value} (hv : RowA w0 W F e size v n xs) (hg : W.grownBy W1 v.ownBlock) : LgF Rep w0 W1 p s F :=
  ⟨h.ok, h.old.grown hg h.old.size (fun q hq => (hv.1.lt q hq).1), hR.later W W1 p s F (fun k => v.ownBlock = some k) h.rep ⟨hg.os, hg.tape, hg.output, hg.size, fun k hk hne => hg.block k hk (fun e => hne e.symm)⟩ (fun k hF hk => hv.2 k hk hF), h.far⟩
theorem LgF.new_row (hR : LogW Rep) (h : LgF Rep w0 W p s F) {e size n m : Nat} {v v1 : Value} {xs ys : List Value} (hv : RowA w0 W F e size v n xs) (h1 : W1.ownsRow w0.heap.size e size v1 m ys) (ha : ∀ g, v1.ownBlock = some g → v.ownBlock = some g ∨ W.heap.size ≤ g) : RowA w0 W1 F e size v1 m ys := ⟨h1, fun g hg hF => by
  rcases ha g hg with h2 | h2
  · exact hv.2 g h2 hF
  · have := hR.lt W p s F h.rep g hF; omega⟩
theorem LgF.fresh (hR : LogW Rep) (h : LgF Rep w0 W p s F) {e size m : Nat} {v1 : Value} {ys : List Value} (h1 : W1.ownsRow W.heap.size e size v1 m ys) (hs : w0.heap.size ≤ W.heap.size) : RowA w0 W1 F e size v1 m ys := ⟨by
  obtain ⟨hl, hd | ⟨g, cap, cur, hv, hbg, r⟩⟩ := h1
  · exact ⟨hl, .inl hd⟩
  · exact ⟨hl, .inr ⟨g, cap, cur, hv, Nat.le_trans hs hbg, r⟩⟩, fun g hg hF => by
  have := (h1.lt g hg).1
  have := hR.lt W p s F h.rep g hF
  omega⟩
theorem lgF_new2 (hR : LogW Rep) (hW : Below w0.heap.size w0 W) : Calls Tryd.prog 6 #[] W fun e w' => ∃ p F, e = .returned (ptL p) ∧ LgF Rep w0 w' p lg0 F := by
  refine (hR.new W).mono ?_
  rintro e w' ⟨hb, p, F, he, hr, hf⟩
  exact ⟨p, F, he, lgOk0, hW.trans (hb.mono hW.size), hr, fun k hk => Nat.le_trans hW.size (hf k hk)⟩
theorem lgF_do (hR : LogW Rep) (h : LgF Rep w0 W p s F) (o : Op3) : Calls Tryd.prog 10 #[ptL p, opL o] W fun e w' => ∃ r s' F', DoR s o r s' ∧ e = .returned (errV r) ∧ LgF Rep w0 w' p s' F' ∧ CarryA w0 W F w' F' := by
  refine (hR.do_ W p s F o h.rep h.ok).mono ?_
  rintro e w' ⟨r, s', hd, he, F', hr, ht, hf⟩
  exact ⟨r, s', F', hd, he, h.turn (do_ok h.ok hd) hr ht hf, carry_turn ht hf⟩
theorem lgF_sync (hR : LogW Rep) (h : LgF Rep w0 W p s F) : Calls Tryd.prog 12 #[ptL p] W fun e w' => ∃ F', e = .returned (errV (syncE s)) ∧ LgF Rep w0 w' p (syncS s) F' ∧ CarryA w0 W F w' F' := by
  refine (hR.sync W p s F h.rep h.ok).mono ?_
  rintro e w' ⟨he, F', hr, ht, hf⟩
  exact ⟨F', he, h.turn (sync_ok h.ok) hr ht hf, carry_turn ht hf⟩
theorem lgF_fail (hR : LogW Rep) (h : LgF Rep w0 W p s F) (n : Int) : Calls Tryd.prog 9 #[ptL p, .int .i64 n] W fun e w' => ∃ F', e = .returned (.tuple #[]) ∧ LgF Rep w0 w' p (failS s n) F' ∧ CarryA w0 W F w' F' := by
  refine (hR.fail W p s F n h.rep h.ok).mono ?_
  rintro e w' ⟨he, F', hr, ht, hf⟩
  exact ⟨F', he, h.turn (fail_ok h.ok n) hr ht hf, carry_turn ht hf⟩
theorem lgF_crash (hR : LogW Rep) (h : LgF Rep w0 W p s F) (n : Int) : Calls Tryd.prog 13 #[ptL p, .int .i64 n] W fun e w' => ∃ F', e = .returned (.tuple #[]) ∧ LgF Rep w0 w' p (crashS s n) F' ∧ CarryA w0 W F w' F' := by
  refine (hR.crash W p s F n h.rep h.ok).mono ?_
  rintro e w' ⟨he, F', hr, ht, hf⟩
  exact ⟨F', he, h.turn (crash_ok h.ok n) hr ht hf, carry_turn ht hf⟩
theorem lgF_all (hR : LogW Rep) (h : LgF Rep w0 W p s F) : Calls Tryd.prog 14 #[ptL p] W fun e w' => ∃ v', e = .returned v' ∧ IsOps w' v' s.hist ∧ Below W.heap.size W w' := hR.all W p s F h.rep h.ok
theorem lgF_values (hR : LogW Rep) (h : LgF Rep w0 W p s F) : Calls Tryd.prog 8 #[ptL p] W fun e w' => ∃ v', e = .returned v' ∧ IsInts w' v' (valsL (doneL s.hist)) ∧ Below W.heap.size W w' := hR.values W p s F h.rep h.ok
theorem lgF_bytes (hR : LogW Rep) (h : LgF Rep w0 W p s F) : Calls Tryd.prog 7 #[ptL p] W fun e w' => e = .returned (.int .i64 s.bytes) ∧ Below W.heap.size W w' := hR.bytes W p s F h.rep h.ok
theorem lgF_safe (hR : LogW Rep) (h : LgF Rep w0 W p s F) : Calls Tryd.prog 15 #[ptL p] W fun e w' => e = .returned (.int .i64 s.safe) ∧ Below W.heap.size W w' := hR.safe W p s F h.rep h.ok
end
def natC (n : Nat) : Value := .int .i64 n
/-- A Log, its history as a row of one's own, and where its records end. -/
structure KpF (Rep : World → Nat → Lg → (Nat → Prop) → Prop) (w0 W : World) (p : Nat) (s : Lg) (F : Nat → Prop) (dv mv : Value) : Prop where
  lg : LgF Rep w0 W p s F
  done : RowA w0 W F 32 3 dv s.hist.length (flat s.hist)
  marks : RowA w0 W F 3 1 mv (s.hist.length + 1) ((marksL s).map natC)
theorem KpF.below {Rep : World → Nat → Lg → (Nat → Prop) → Prop} (hR : LogW Rep) {w0 W W1 : World} {p : Nat} {s : Lg} {F : Nat → Prop} {dv mv : Value} (h : KpF Rep w0 W p s F dv mv) (hb : Below W.heap.size W W1) : KpF Rep w0 W1 p s F dv mv := ⟨h.lg.below hR hb, carry_below hb _ _ _ _ _ h.done, carry_below hb _ _ _ _ _ h.marks⟩
theorem KpF.carry {Rep : World → Nat → Lg → (Nat → Prop) → Prop} {w0 W W1 : World} {p : Nat} {s s1 : Lg} {F F1 : Nat → Prop} {dv mv : Value} (h : KpF Rep w0 W p s F dv mv) (h1 : LgF Rep w0 W1 p s1 F1) (hc : CarryA w0 W F W1 F1) (e1 : s1.hist = s.hist) (e2 : s1.ends = s.ends) : KpF Rep w0 W1 p s1 F1 dv mv :=
  ⟨h1, by rw [e1]; exact hc _ _ _ _ _ h.done, by unfold marksL; rw [e1, e2]; exact hc _ _ _ _ _ h.marks⟩
theorem sync_same (s : Lg) : (syncS s).hist = s.hist ∧ (syncS s).ends = s.ends := by
  unfold syncS
  split
  · exact ⟨rfl, rfl⟩
  · split
    · exact ⟨rfl, rfl⟩
    · exact ⟨rfl, rfl⟩
theorem sync_safe {s : Lg} (h : syncE s = 0) : (syncS s).safe = (syncS s).bytes := by
  unfold syncE at h
  unfold syncS
  split at h
  · cases h
  · rename_i h1
    rw [if_neg h1]
    split at h
    · cases h
    · rename_i h2
      rw [if_neg h2]
theorem marks_at {Rep : World → Nat → Lg → (Nat → Prop) → Prop} {w0 W : World} {p : Nat} {s : Lg} {F : Nat → Prop} {dv mv : Value} (h : KpF Rep w0 W p s F dv mv) : ∃ g c, mv = .slice (some ⟨g, 0, none⟩) (s.hist.length + 1) c ∧ s.hist.length + 1 ≤ c ∧ g < W.heap.size ∧ ∀ i, i < s.hist.length + 1 → W.cell? ⟨g, i, none⟩ = some (.int .i64 (((marksL s).getD i 0 : Nat) : Int)) := by
  have ho := h.marks.1
  have hl := marks_len h.lg.ok
  obtain ⟨_, ⟨hv, hz⟩ | ⟨g, c, cur, hv, _, _, hn, _⟩⟩ := h.marks.1
  · omega
  · refine ⟨g, c, hv, hn, (ho.lt g (by rw [hv]; rfl)).2, fun i hi => ?_⟩
    have hi' : i < (marksL s).length := by omega
    have := ho.cells (g := g) (by rw [hv]; rfl) i (.int .i64 (((marksL s).getD i 0 : Nat) : Int)) (by simp [natC, List.getD, List.getElem?_eq_getElem hi'])
    rw [Addr.add_lit] at this
    simpa using this
theorem own_takeG {w : World} {base e size n cap k : Nat} {ad : Option Addr} {xs : List Value} (h : w.ownsRow base e size (.slice ad n cap) n xs) (hk : k ≤ n) : w.ownsRow base e size (.slice ad k cap) k (xs.take (k * size)) := by
  obtain ⟨hl, ⟨hv, h0⟩ | ⟨g', cap', cur, hv, hb, hg, hn, hm, hs, ht⟩⟩ := h
  · simp only [Value.slice.injEq] at hv
    obtain ⟨rfl, _, rfl⟩ := hv
    have hk0 : k = 0 := by omega
    subst hk0
    exact ⟨by simp, .inl ⟨rfl, rfl⟩⟩
  · simp only [Value.slice.injEq] at hv
    obtain ⟨rfl, _, rfl⟩ := hv
    have hmul : k * size ≤ n * size := Nat.mul_le_mul_right size hk
    refine ⟨by rw [List.length_take, hl]; omega, .inr ⟨g', cap, cur, rfl, hb, hg, by omega, hm, hs, ?_⟩⟩
    rw [← ht, List.take_take, Nat.min_eq_left hmul]
theorem flat_take (l : List Op3) : ∀ k, (flat l).take (k * 3) = flat (l.take k) := by
  induction l with
  | nil => intro k; simp [flat]
  | cons o r ih =>
    intro k
    cases k with
    | zero => rfl
    | succ k =>
      rw [List.take_succ_cons, show (k + 1) * 3 = k * 3 + 3 by omega]
      show (_ :: _ :: _ :: flat r).take (k * 3 + 3) = _ :: _ :: _ :: flat (r.take k)
      rw [List.take_succ_cons, List.take_succ_cons, List.take_succ_cons, ih]
/-- Behind a crash: history and marks are cut. -/
theorem KpF.crash {Rep : World → Nat → Lg → (Nat → Prop) → Prop} {w0 W W1 : World} {p : Nat} {s : Lg} {F F1 : Nat → Prop} {dad mad : Option Addr} {dcap mcap : Nat} {keep : Int} (h : KpF Rep w0 W p s F (.slice dad s.hist.length dcap) (.slice mad (s.hist.length + 1) mcap)) (h1 : LgF Rep w0 W1 p (crashS s keep) F1) (hc : CarryA w0 W F W1 F1) : KpF Rep w0 W1 p (crashS s keep) F1 (.slice dad (leftL s keep) dcap) (.slice mad (leftL s keep + 1) mcap) := by
  have hle := left_le h.lg.ok keep
  obtain ⟨c1, c2, -, -⟩ := crash_is h.lg.ok keep
  have hl : (crashS s keep).hist.length = leftL s keep := by rw [c1, List.length_take]; omega
  have d := hc _ _ _ _ _ h.done
  have m := hc _ _ _ _ _ h.marks
  have ob : ∀ (ad : Option Addr) (a b c : Nat), (Value.slice ad a c).ownBlock = (Value.slice ad b c).ownBlock := fun ad a b c => by cases ad <;> rfl
  refine ⟨h1, ?_, ?_⟩
  · rw [hl, c1, ← flat_take]
    exact ⟨own_takeG d.1 hle, fun g hg => d.2 g (by rw [← hg]; exact ob _ _ _ _)⟩
  · rw [hl, c2]
    have e : ((marksL s).take (leftL s keep + 1)).map natC = ((marksL s).map natC).take ((leftL s keep + 1) * 1) := by rw [Nat.mul_one, List.map_take]
    rw [e]
    exact ⟨own_takeG m.1 (by omega), fun g hg => m.2 g (by rw [← hg]; exact ob _ _ _ _)⟩
end Go.Proofs.YtggieffpehbfaaaDoor
