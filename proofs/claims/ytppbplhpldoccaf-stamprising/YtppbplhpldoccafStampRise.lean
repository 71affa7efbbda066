/-
  PROVED HERE: plain facts, with no word of the program: by numbers, deals of rising numbers, one behind the other, are told as they asked; of falling ones that read and write one item all but the first are aborted.
  Conditions: none.
-/
import Derived.Test.YtppbplhpldoccafStampPlain
import Derived.Test.YtppbplhpldoccafPiecesPlain
namespace Go.Proofs.Ytppbplhpldoccaf

/-- The first n numbers, rising; falling. -/
def upTo (n : Nat) : List Int := (List.range n).map fun (k : Nat) => (k : Int) + 1
def downFrom (n : Nat) : List Int := (upTo n).reverse
theorem upTo_succ (n : Nat) : upTo (n + 1) = upTo n ++ [(n : Int) + 1] := by
  unfold upTo
  rw [List.range_succ, List.map_append]
  rfl
theorem downFrom_succ (n : Nat) : downFrom (n + 1) = ((n : Int) + 1) :: downFrom n := by
  unfold downFrom
  rw [upTo_succ, List.reverse_append]
  rfl
theorem upTo_len (n : Nat) : (upTo n).length = n := by simp [upTo]
theorem downFrom_len (n : Nat) : (downFrom n).length = n := by simp [downFrom, upTo]
/-- Nobody of a greater number came yet. -/
structure Below1 (s : Stm) (n : Int) : Prop where
  rd : ∀ x, s.rd x ≤ n
  wr : ∀ x, s.wr x ≤ n
  out : ∀ d, s.out d = false
  vict : s.vict = []
theorem rise_piece {leave : Bool} {a b t : Int} {s : Stm} {n : Int} (h : Below1 s n) (hn : n ≤ t) : Below1 ((pieceL a b t).foldl (stepS leave) s) t ∧ ((pieceL a b t).foldl (stepS leave) s).told = s.told ++ pieceL a b t ∧ ((pieceL a b t).foldl (stepS leave) s).wr b = t := by
  have e1 : stepS leave s (t, 1, a) = { s with rd := setF s.rd a (maxI (s.rd a) t), told := s.told ++ [(t, 1, a)] } := by
    unfold stepS
    rw [if_neg (by rw [h.out]; decide), if_neg (by have := h.wr a; simp [badS, lateS]; omega)]
    rfl
  have hm : maxI (s.rd a) t = t := by
    have := h.rd a
    unfold maxI
    split
    · rfl
    · omega
  rw [hm] at e1
  have e2 : stepS leave { s with rd := setF s.rd a t, told := s.told ++ [(t, 1, a)] } (t, 2, b) = { s with rd := setF s.rd a t, wr := setF s.wr b t, told := s.told ++ [(t, 1, a)] ++ [(t, 2, b)] } := by
    have hr : ¬ t < setF s.rd a t b := by
      unfold setF
      split
      · omega
      · have := h.rd b; omega
    have hw : ¬ t < s.wr b := by have := h.wr b; omega
    unfold stepS
    rw [if_neg (by simp [h.out]), if_neg (by simp [badS, lateS, hw]; omega), if_neg (by simp), if_pos rfl, if_neg (by simp [lateS]; omega)]
  have e3 : stepS leave { s with rd := setF s.rd a t, wr := setF s.wr b t, told := s.told ++ [(t, 1, a)] ++ [(t, 2, b)] } (t, 3, 0) = { s with rd := setF s.rd a t, wr := setF s.wr b t, told := s.told ++ [(t, 1, a)] ++ [(t, 2, b)] ++ [(t, 3, 0)] } := by
    unfold stepS
    rw [if_neg (by simp [h.out]), if_neg (by simp [badS]), if_neg (by simp), if_neg (by simp)]
  unfold pieceL
  simp only [List.foldl_cons, List.foldl_nil]
  rw [e1, e2, e3]
  refine ⟨⟨fun x => ?_, fun x => ?_, h.out, h.vict⟩, by simp, setF_same _ _ _⟩
  · show setF s.rd a t x ≤ t
    unfold setF
    split
    · omega
    · have := h.rd x; omega
  · show setF s.wr b t x ≤ t
    unfold setF
    split
    · omega
    · have := h.wr x; omega
theorem stamp_up_all (leave : Bool) (a b : Int) : ∀ n : Nat, Below1 (stampR leave (piecesL a b (upTo n))) (n : Int) ∧ (stampR leave (piecesL a b (upTo n))).told = piecesL a b (upTo n) := by
  intro n
  induction n with
  | zero => exact ⟨⟨fun _ => Int.le_refl _, fun _ => Int.le_refl _, fun _ => rfl, rfl⟩, rfl⟩
  | succ n ih =>
    have e : piecesL a b (upTo (n + 1)) = piecesL a b (upTo n) ++ pieceL a b ((n : Int) + 1) := by
      rw [upTo_succ]
      unfold piecesL
      rw [List.flatMap_append]
      simp
    have e2 : stampR leave (piecesL a b (upTo (n + 1))) = (pieceL a b ((n : Int) + 1)).foldl (stepS leave) (stampR leave (piecesL a b (upTo n))) := by
      rw [e]
      unfold stampR
      rw [List.foldl_append]
    have h1 := rise_piece (leave := leave) (a := a) (b := b) (t := (n : Int) + 1) ih.1 (by omega)
    rw [e2, e]
    refine ⟨?_, by rw [h1.2.1, ih.2]⟩
    have := h1.1
    rw [show ((n + 1 : Nat) : Int) = (n : Int) + 1 by omega]
    exact this
/-- One of a greater number wrote the item. -/
theorem fall_piece {leave : Bool} {a t : Int} {s : Stm} (hw : t < s.wr a) (ho : s.out t = false) : (pieceL a a t).foldl (stepS leave) s = goneS s t := by
  have e1 : stepS leave s (t, 1, a) = goneS s t := by
    unfold stepS
    rw [if_neg (by rw [ho]; decide), if_pos (by simp [badS, lateS]; omega)]
  have e2 : ∀ o : Op3, o.1 = t → stepS leave (goneS s t) o = goneS s t := fun o h => by
    unfold stepS
    rw [if_pos (by rw [h]; exact setF_same _ _ _)]
  unfold pieceL
  simp only [List.foldl_cons, List.foldl_nil]
  rw [e1, e2 _ rfl, e2 _ rfl]
theorem fall_rest {leave : Bool} {a : Int} : ∀ (n : Nat) (s : Stm), (n : Int) < s.wr a → (∀ d : Int, d ≤ n → s.out d = false) → ((piecesL a a (downFrom n)).foldl (stepS leave) s).vict.length = s.vict.length + n := by
  intro n
  induction n with
  | zero => intro s _ _; rfl
  | succ n ih =>
    intro s hw ho
    have e : piecesL a a (downFrom (n + 1)) = pieceL a a ((n : Int) + 1) ++ piecesL a a (downFrom n) := by
      rw [downFrom_succ]
      unfold piecesL
      rw [List.flatMap_cons]
    rw [e, List.foldl_append, fall_piece (by omega) (ho _ (by omega)), ih (goneS s ((n : Int) + 1)) (by show (n : Int) < s.wr a; omega) (fun d hd => by
      show setF s.out ((n : Int) + 1) true d = false
      rw [setF_other _ _ (by omega)]
      exact ho d (by omega))]
    show (s.vict ++ [_]).length + n = _
    simp
    omega
theorem stamp_down {leave : Bool} {a : Int} (n : Nat) : (stampR leave (piecesL a a (downFrom n))).vict.length = n - 1 := by
  cases n with
  | zero => rfl
  | succ n =>
    have e : piecesL a a (downFrom (n + 1)) = pieceL a a ((n : Int) + 1) ++ piecesL a a (downFrom n) := by
      rw [downFrom_succ]
      unfold piecesL
      rw [List.flatMap_cons]
    have h0 : Below1 stm0 0 := ⟨fun _ => Int.le_refl _, fun _ => Int.le_refl _, fun _ => rfl, rfl⟩
    obtain ⟨h1, -, hwr⟩ := rise_piece (leave := leave) (a := a) (b := a) (t := (n : Int) + 1) h0 (by omega)
    unfold stampR
    rw [e, List.foldl_append, fall_rest n _ (by rw [hwr]; omega) (fun d _ => h1.out d), h1.vict]
    simp
end Go.Proofs.Ytppbplhpldoccaf
