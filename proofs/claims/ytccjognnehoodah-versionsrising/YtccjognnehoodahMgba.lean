/-
  PROVED HERE: plain facts, with no word of the program: of deals that come one behind the other the runs of chapters 11, 12 and 13 come to one and the same: all are done, and none ran at once.
  Conditions: none.
  PROVED HERE: plain facts, with no word of the program: by numbers, deals of rising numbers, one behind the other, are told as they asked; of falling ones that read and write one item all but the first are aborted.
  Conditions: none.
-/
import Derived.Test.YtccjognnehoodahMgau
import Derived.Test.YtccjognnehoodahMgay
import Derived.Test.YtccjognnehoodahMgaz
import Derived.Test.YtccjognnehoodahMgam
import Derived.Test.YtccjognnehoodahMgat
namespace Go.Proofs.Ytccjognnehoodah

theorem seenL_congr {of of' : Int → Dl} : ∀ {ds : List Int}, (∀ t ∈ ds, of t = of' t) → seenL of ds = seenL of' ds := by
  intro ds
  induction ds with
  | nil => intro _; rfl
  | cons t r ih =>
    intro h
    have e : ∀ f : Int → Dl, seenL f (t :: r) = (f t).seen ++ seenL f r := fun f => by unfold seenL; rw [List.flatMap_cons]
    rw [e, e, h t List.mem_cons_self, ih fun u hu => h u (List.mem_cons_of_mem _ hu)]
theorem lastL_congr {of of' : Int → Dl} {ds : List Int} (h : ∀ t ∈ ds, of t = of' t) : lastL of ds = lastL of' ds := by
  unfold lastL
  congr 1
  funext i
  unfold lastF6
  exact lastK_congr h _
theorem ser_alike {a b : Int} {ps : List Int} {s s' : Kst} (h : Ser a b ps ps.length s) (h' : Ser a b ps ps.length s') : s.done = ps ∧ s'.done = ps ∧ ∀ t ∈ ps, s.of t = s'.of t := by
  have e1 := h.done
  have e2 := h'.done
  rw [List.take_length] at e1 e2
  refine ⟨e1, e2, fun t ht => ?_⟩
  obtain ⟨i, hi, e⟩ := take_mem (Nat.le_refl _) (by rw [List.take_length]; exact ht : t ∈ ps.take ps.length)
  rw [← e, h.of i hi, h'.of i hi]
/-- All three runs come to the same. -/
theorem ru_out {a b : Int} (ha : 1 ≤ a ∧ a ≤ 6) (hb : 1 ≤ b ∧ b ≤ 6) {ps : List Int} (hd : Deals1 ps) :
    outU 2 okS false (piecesL a b ps) = outU 1 okV false (piecesL a b ps) ∧ outU 3 okBtw false (piecesL a b ps) = outU 1 okV false (piecesL a b ps) ∧ (outU 1 okV false (piecesL a b ps)).1.1 = ps ∧ (outU 1 okV false (piecesL a b ps)).2 = 0 ∧
      (if (chk (piecesL a b ps)).2 ≠ 0 then [] else togL (runK 2 okS (piecesL a b ps) (piecesL a b ps).length).of (runK 2 okS (piecesL a b ps) (piecesL a b ps).length).done) = [] := by
  have hc := pieces_chk ha hb hd
  have hl := pieces_len a b ps
  have h1 := ser_valid (a := a) (b := b) hd.once ps.length (Nat.le_refl _)
  have h2 := ser_snap (a := a) (b := b) hd.once ps.length (Nat.le_refl _)
  rw [← hl] at h1 h2
  obtain ⟨e1, e2, e3⟩ := ser_alike h1 h2
  have o1 : outU 2 okS false (piecesL a b ps) = outU 1 okV false (piecesL a b ps) := by
    rw [outU_ok hc, outU_ok hc]
    show ((_, _, _), _) = ((_, _, _), _)
    have q1 : ordN false (runK 1 okV (piecesL a b ps) (piecesL a b ps).length).done = ps := e1
    have q2 : ordN false (runK 2 okS (piecesL a b ps) (piecesL a b ps).length).done = ps := e2
    rw [q1, q2, seenL_congr fun t ht => (e3 t ht).symm, lastL_congr fun t ht => (e3 t ht).symm]
  refine ⟨o1, ?_, ?_, ?_, ?_⟩
  · rw [← o1, outU_ok hc, outU_ok hc, ser_danger ha hb hd]
  · rw [outU_ok hc]; exact e1
  · rw [outU_ok hc]
  · rw [if_neg (by simpa using hc)]
    unfold togL
    refine List.filter_eq_nil_iff.2 fun e _ hf => ?_
    unfold togB at hf
    simp only [Bool.and_eq_true, decide_eq_true_eq] at hf
    have := h2.once (Nat.le_refl _) (inB_iff.1 hf.1.1) (inB_iff.1 hf.1.2) (by omega)
    rw [this] at hf
    exact absurd hf.2.2 (by decide)
end Go.Proofs.Ytccjognnehoodah

namespace Go.Proofs.Ytccjognnehoodah

/-- The first n numbers, rising; falling. -/
def upTo (n : Nat) : List Int := (List.range n).map fun (k : Nat) => (k : Int) + 1
def downFrom (n : Nat) : List Int := (upTo n).reverse
theorem upTo_succ (n : Nat) : upTo (n + 1) = upTo n ++ [(n : Int) + 1] := by
  unfold upTo
  rw [List.range_succ, List.map_append]
  rfl
theorem downFrom_succ (n : Nat) : downFrom (n + 1) = ((n : Int) + 1) :: downFrom n := by
  unfold downFrom
  rw [upTo_succ, List.reverse_append]
  rfl
theorem upTo_len (n : Nat) : (upTo n).length = n := by simp [upTo]
theorem downFrom_len (n : Nat) : (downFrom n).length = n := by simp [downFrom, upTo]
/-- Nobody of a greater number came yet. -/
structure Below1 (s : Stm) (n : Int) : Prop where
  rd : ∀ x, s.rd x ≤ n
  wr : ∀ x, s.wr x ≤ n
  out : ∀ d, s.out d = false
  vict : s.vict = []
theorem rise_piece {leave : Bool} {a b t : Int} {s : Stm} {n : Int} (h : Below1 s n) (hn : n ≤ t) : Below1 ((pieceL a b t).foldl (stepS leave) s) t ∧ ((pieceL a b t).foldl (stepS leave) s).told = s.told ++ pieceL a b t ∧ ((pieceL a b t).foldl (stepS leave) s).wr b = t := by
  have e1 : stepS leave s (t, 1, a) = { s with rd := setF s.rd a (maxI (s.rd a) t), told := s.told ++ [(t, 1, a)] } := by
    unfold stepS
    rw [if_neg (by rw [h.out]; decide), if_neg (by have := h.wr a; simp [badS, lateS]; omega)]
    rfl
  have hm : maxI (s.rd a) t = t := by
    have := h.rd a
    unfold maxI
    split
    · rfl
    · omega
  rw [hm] at e1
  have e2 : stepS leave { s with rd := setF s.rd a t, told := s.told ++ [(t, 1, a)] } (t, 2, b) = { s with rd := setF s.rd a t, wr := setF s.wr b t, told := s.told ++ [(t, 1, a)] ++ [(t, 2, b)] } := by
    have hr : ¬ t < setF s.rd a t b := by
      unfold setF
      split
      · omega
      · have := h.rd b; omega
    have hw : ¬ t < s.wr b := by have := h.wr b; omega
    unfold stepS
    rw [if_neg (by simp [h.out]), if_neg (by simp [badS, lateS, hw]; omega), if_neg (by simp), if_pos rfl, if_neg (by simp [lateS]; omega)]
  have e3 : stepS leave { s with rd := setF s.rd a t, wr := setF s.wr b t, told := s.told ++ [(t, 1, a)] ++ [(t, 2, b)] } (t, 3, 0) = { s with rd := setF s.rd a t, wr := setF s.wr b t, told := s.told ++ [(t, 1, a)] ++ [(t, 2, b)] ++ [(t, 3, 0)] } := by
    unfold stepS
    rw [if_neg (by simp [h.out]), if_neg (by simp [badS]), if_neg (by simp), if_neg (by simp)]
  unfold pieceL
  simp only [List.foldl_cons, List.foldl_nil]
  rw [e1, e2, e3]
  refine ⟨⟨fun x => ?_, fun x => ?_, h.out, h.vict⟩, by simp, setF_same _ _ _⟩
  · show setF s.rd a t x ≤ t
    unfold setF
    split
    · omega
    · have := h.rd x; omega
  · show setF s.wr b t x ≤ t
    unfold setF
    split
    · omega
    · have := h.wr x; omega
theorem stamp_up_all (leave : Bool) (a b : Int) : ∀ n : Nat, Below1 (stampR leave (piecesL a b (upTo n))) (n : Int) ∧ (stampR leave (piecesL a b (upTo n))).told = piecesL a b (upTo n) := by
  intro n
  induction n with
  | zero => exact ⟨⟨fun _ => Int.le_refl _, fun _ => Int.le_refl _, fun _ => rfl, rfl⟩, rfl⟩
  | succ n ih =>
    have e : piecesL a b (upTo (n + 1)) = piecesL a b (upTo n) ++ pieceL a b ((n : Int) + 1) := by
      rw [upTo_succ]
      unfold piecesL
      rw [List.flatMap_append]
      simp
    have e2 : stampR leave (piecesL a b (upTo (n + 1))) = (pieceL a b ((n : Int) + 1)).foldl (stepS leave) (stampR leave (piecesL a b (upTo n))) := by
      rw [e]
      unfold stampR
      rw [List.foldl_append]
    have h1 := rise_piece (leave := leave) (a := a) (b := b) (t := (n : Int) + 1) ih.1 (by omega)
    rw [e2, e]
    refine ⟨?_, by rw [h1.2.1, ih.2]⟩
    have := h1.1
    rw [show ((n + 1 : Nat) : Int) = (n : Int) + 1 by omega]
    exact this
/-- One of a greater number wrote the item. -/
theorem fall_piece {leave : Bool} {a t : Int} {s : Stm} (hw : t < s.wr a) (ho : s.out t = false) : (pieceL a a t).foldl (stepS leave) s = goneS s t := by
  have e1 : stepS leave s (t, 1, a) = goneS s t := by
    unfold stepS
    rw [if_neg (by rw [ho]; decide), if_pos (by simp [badS, lateS]; omega)]
  have e2 : ∀ o : Op3, o.1 = t → stepS leave (goneS s t) o = goneS s t := fun o h => by
    unfold stepS
    rw [if_pos (by rw [h]; exact setF_same _ _ _)]
  unfold pieceL
  simp only [List.foldl_cons, List.foldl_nil]
  rw [e1, e2 _ rfl, e2 _ rfl]
theorem fall_rest {leave : Bool} {a : Int} : ∀ (n : Nat) (s : Stm), (n : Int) < s.wr a → (∀ d : Int, d ≤ n → s.out d = false) → ((piecesL a a (downFrom n)).foldl (stepS leave) s).vict.length = s.vict.length + n := by
  intro n
  induction n with
  | zero => intro s _ _; rfl
  | succ n ih =>
    intro s hw ho
    have e : piecesL a a (downFrom (n + 1)) = pieceL a a ((n : Int) + 1) ++ piecesL a a (downFrom n) := by
      rw [downFrom_succ]
      unfold piecesL
      rw [List.flatMap_cons]
    rw [e, List.foldl_append, fall_piece (by omega) (ho _ (by omega)), ih (goneS s ((n : Int) + 1)) (by show (n : Int) < s.wr a; omega) (fun d hd => by
      show setF s.out ((n : Int) + 1) true d = false
      rw [setF_other _ _ (by omega)]
      exact ho d (by omega))]
    show (s.vict ++ [_]).length + n = _
    simp
    omega
theorem stamp_down {leave : Bool} {a : Int} (n : Nat) : (stampR leave (piecesL a a (downFrom n))).vict.length = n - 1 := by
  cases n with
  | zero => rfl
  | succ n =>
    have e : piecesL a a (downFrom (n + 1)) = pieceL a a ((n : Int) + 1) ++ piecesL a a (downFrom n) := by
      rw [downFrom_succ]
      unfold piecesL
      rw [List.flatMap_cons]
    have h0 : Below1 stm0 0 := ⟨fun _ => Int.le_refl _, fun _ => Int.le_refl _, fun _ => rfl, rfl⟩
    obtain ⟨h1, -, hwr⟩ := rise_piece (leave := leave) (a := a) (b := a) (t := (n : Int) + 1) h0 (by omega)
    unfold stampR
    rw [e, List.foldl_append, fall_rest n _ (by rw [hwr]; omega) (fun d _ => h1.out d), h1.vict]
    simp
end Go.Proofs.Ytccjognnehoodah
