/-
  PROVED HERE: plain facts, with no word of the program: chapter 18 as relations on how a Log stands: its history, where each record ends, how many bytes there are, how many are safe, when it stops; of a deal that reads again and again.
  Conditions: none.
  (Of these, what the claim wants: the rest was left out.)
-/
import Derived.Test.YtggieffpehbfaaaDoorBack
import Derived.Test.YtggieffpehbfaaaDoorPlayPlain
namespace Go.Proofs.YtggieffpehbfaaaDoor

/-- How a Log stands. -/
structure Lg where
  hist : List Op3
  ends : List Nat
  bytes : Nat
  safe : Nat
  left : Option Nat
  stop : Bool
def lg0 : Lg := ⟨[], [], 0, 0, none, false⟩
def lastE (l : List Nat) : Nat := l.getLastD 0
/-- So many steps are left (below 0: it never stops). -/
def leftO (x : Int) : Option Nat := if x < 0 then none else some x.toNat
/-- A step: what is left of them then (a number that no int64 has wraps around, as the program's does). -/
def lessO (o : Option Nat) : Option Nat := o.bind fun n => leftO (IntKind.i64.wrap ((n : Int) - 1))
/-- What comes of a Do: it has stopped; the op is wrong; it stops now; it is done. -/
def DoR (s : Lg) (o : Op3) (r : Int) (s' : Lg) : Prop :=
  (s.stop = true ∧ r = 6 ∧ s' = s) ∨ (s.stop = false ∧ (chk (s.hist ++ [o])).2 ≠ 0 ∧ r = (chk (s.hist ++ [o])).2 ∧ s' = s)
    ∨ (∃ n : Nat, s.stop = false ∧ (chk (s.hist ++ [o])).2 = 0 ∧ s.left = some 0 ∧ 2 ≤ n ∧ n ≤ 1000 ∧ r = 6 ∧ s' = { s with bytes := s.bytes + n / 2, stop := true })
    ∨ (∃ n : Nat, s.stop = false ∧ (chk (s.hist ++ [o])).2 = 0 ∧ s.left ≠ some 0 ∧ 2 ≤ n ∧ n ≤ 1000 ∧ r = 0 ∧ s' = ⟨s.hist ++ [o], s.ends ++ [s.bytes + n], s.bytes + n, s.safe, lessO s.left, false⟩)
theorem DoR.stopped {s : Lg} {o : Op3} (h : s.stop = true) : DoR s o 6 s := .inl ⟨h, rfl, rfl⟩
theorem DoR.wrong {s : Lg} {o : Op3} (h : s.stop = false) (h1 : (chk (s.hist ++ [o])).2 ≠ 0) : DoR s o (chk (s.hist ++ [o])).2 s := .inr (.inl ⟨h, h1, rfl, rfl⟩)
theorem DoR.fails {s : Lg} {o : Op3} (n : Nat) (h : s.stop = false) (h1 : (chk (s.hist ++ [o])).2 = 0) (h2 : s.left = some 0) (h3 : 2 ≤ n) (h4 : n ≤ 1000) : DoR s o 6 { s with bytes := s.bytes + n / 2, stop := true } := .inr (.inr (.inl ⟨n, h, h1, h2, h3, h4, rfl, rfl⟩))
theorem DoR.does {s : Lg} {o : Op3} (n : Nat) (h : s.stop = false) (h1 : (chk (s.hist ++ [o])).2 = 0) (h2 : s.left ≠ some 0) (h3 : 2 ≤ n) (h4 : n ≤ 1000) : DoR s o 0 ⟨s.hist ++ [o], s.ends ++ [s.bytes + n], s.bytes + n, s.safe, lessO s.left, false⟩ := .inr (.inr (.inr ⟨n, h, h1, h2, h3, h4, rfl, rfl⟩))
/-- .. of a Sync: what is wrong, how it stands then. -/
def syncE (s : Lg) : Int := if s.stop = true then 6 else if s.left = some 0 then 6 else 0
def syncS (s : Lg) : Lg := if s.stop = true then s else if s.left = some 0 then { s with stop := true } else { s with safe := s.bytes, left := lessO s.left }
def failS (s : Lg) (n : Int) : Lg := { s with left := if n < 0 then none else some n.toNat }
/-- How many bytes are left by a crash, ahead of the last whole record. -/
def highL (s : Lg) (keep : Int) : Nat := min s.bytes (s.safe + keep.toNat)
def leftL (s : Lg) (keep : Int) : Nat := (s.ends.filter fun e => decide (e ≤ highL s keep)).length
def crashS (s : Lg) (keep : Int) : Lg := ⟨s.hist.take (leftL s keep), s.ends.take (leftL s keep), lastE (s.ends.take (leftL s keep)), lastE (s.ends.take (leftL s keep)), none, false⟩
structure LgOk (s : Lg) : Prop where
  right : (chk s.hist).2 = 0
  len : s.ends.length = s.hist.length
  rise : s.ends.Pairwise fun a b => a + 2 ≤ b
  two : ∀ e ∈ s.ends, 2 ≤ e
  last : s.stop = false → s.bytes = lastE s.ends
  low : lastE s.ends ≤ s.bytes
  top : s.bytes ≤ lastE s.ends + 500
  safe : s.safe = 0 ∨ s.safe ∈ s.ends
  small : ∀ i e, s.ends[i]? = some e → e ≤ 1000 * (i + 1)
theorem chk40 {l : List Op3} (h : (chk l).2 = 0) : l.length ≤ 40 := by
  unfold chk at h
  split at h
  · cases h
  · omega
theorem lastE_snoc (l : List Nat) (n : Nat) : lastE (l ++ [n]) = n := by unfold lastE; simp
theorem lastE_mem {l : List Nat} (h : l ≠ []) : lastE l ∈ l := by
  unfold lastE
  rw [List.getLastD_eq_getLast?, List.getLast?_eq_some_getLast h]
  exact List.getLast_mem h
theorem lgOk0 : LgOk lg0 := ⟨by decide +kernel, rfl, List.Pairwise.nil, fun e he => (by cases he), fun _ => rfl, Nat.le_refl _, by decide, .inl rfl, fun i e h => (by simp [lg0] at h)⟩
theorem rise_last {l : List Nat} (h : l.Pairwise fun a b => a + 2 ≤ b) {e : Nat} (he : e ∈ l) : e ≤ lastE l := by
  rcases List.eq_nil_or_concat l with rfl | ⟨r, x, rfl⟩
  · cases he
  · rw [List.concat_eq_append] at he h ⊢
    rw [lastE_snoc]
    rcases List.mem_append.1 he with h1 | h1
    · have := (List.pairwise_append.1 h).2.2 e h1 x (List.mem_singleton.2 rfl)
      omega
    · rw [List.mem_singleton.1 h1]; exact Nat.le_refl _
theorem LgOk.lastB {s : Lg} (h : LgOk s) : lastE s.ends ≤ 1000 * s.hist.length := by
  rcases List.eq_nil_or_concat s.ends with e | ⟨r, x, e⟩
  · rw [e]; exact Nat.zero_le _
  · rw [List.concat_eq_append] at e
    have h1 := h.small r.length x (by rw [e]; simp)
    have h2 := h.len
    rw [e, List.length_append, List.length_singleton] at h2
    rw [e, lastE_snoc]
    omega
theorem LgOk.bytesB {s : Lg} (h : LgOk s) : s.bytes ≤ 41000 := by
  have h1 := h.lastB
  have h2 := h.top
  have h3 := chk40 h.right
  omega
theorem do_ok {s s' : Lg} {o : Op3} {e : Int} (h : LgOk s) (hd : DoR s o e s') : LgOk s' := by
  rcases hd with ⟨_, rfl, rfl⟩ | ⟨_, _, rfl, rfl⟩ | ⟨n, h0, h1, h2, h3, h4, rfl, rfl⟩ | ⟨n, h0, h1, h2, h3, h4, rfl, rfl⟩
  · exact h
  · exact h
  · show LgOk _
    have hb := h.last h0
    refine ⟨h.right, h.len, h.rise, h.two, fun hf => (by cases hf), ?_, ?_, h.safe, h.small⟩
    · show lastE s.ends ≤ s.bytes + n / 2
      omega
    · show s.bytes + n / 2 ≤ lastE s.ends + 500
      omega
  · show LgOk _
    have hb := h.last h0
    have hl := h.lastB
    refine ⟨h1, ?_, ?_, fun e he => ?_, fun _ => (lastE_snoc _ _).symm, ?_, ?_, ?_, fun i e hi => ?_⟩
    · show (s.ends ++ [s.bytes + n]).length = (s.hist ++ [o]).length
      rw [List.length_append, List.length_append, h.len]; rfl
    · refine List.pairwise_append.2 ⟨h.rise, List.pairwise_singleton _ _, fun a ha b hb2 => ?_⟩
      rw [List.mem_singleton.1 hb2]
      have := rise_last h.rise ha
      omega
    · rcases List.mem_append.1 he with he | he
      · exact h.two e he
      · rw [List.mem_singleton.1 he]; omega
    · show lastE (s.ends ++ [s.bytes + n]) ≤ s.bytes + n
      rw [lastE_snoc]; exact Nat.le_refl _
    · show s.bytes + n ≤ lastE (s.ends ++ [s.bytes + n]) + 500
      rw [lastE_snoc]; omega
    · rcases h.safe with h5 | h5
      · exact .inl h5
      · exact .inr (List.mem_append_left _ h5)
    · have hi' : (s.ends ++ [s.bytes + n])[i]? = some e := hi
      by_cases hlt : i < s.ends.length
      · rw [List.getElem?_append_left hlt] at hi'
        exact h.small i e hi'
      · rw [List.getElem?_append_right (by omega)] at hi'
        have h6 : i - s.ends.length < [s.bytes + n].length := (List.getElem?_eq_some_iff.1 hi').1
        have h7 : i = s.ends.length := by simp at h6; omega
        rw [h7] at hi' ⊢
        simp at hi'
        have := h.len
        omega
theorem sync_ok {s : Lg} (h : LgOk s) : LgOk (syncS s) := by
  unfold syncS
  split
  · exact h
  · rename_i h0
    split
    · exact ⟨h.right, h.len, h.rise, h.two, fun hf => (by cases hf), h.low, h.top, h.safe, h.small⟩
    · have hb := h.last (by simpa using h0)
      refine ⟨h.right, h.len, h.rise, h.two, fun _ => hb, h.low, h.top, ?_, h.small⟩
      show s.bytes = 0 ∨ s.bytes ∈ s.ends
      rw [hb]
      rcases Decidable.em (s.ends = []) with e | e
      · left; rw [e]; rfl
      · right; exact lastE_mem e
theorem fail_ok {s : Lg} (h : LgOk s) (n : Int) : LgOk (failS s n) := ⟨h.right, h.len, h.rise, h.two, h.last, h.low, h.top, h.safe, h.small⟩
theorem crash_ok {s : Lg} (h : LgOk s) (keep : Int) : LgOk (crashS s keep) := by
  refine ⟨chk_take h.right _, ?_, h.rise.sublist (List.take_sublist ..), fun e he => h.two e (List.mem_of_mem_take he), fun _ => rfl, Nat.le_refl _, ?_, ?_, fun i e hi => ?_⟩
  · show (s.ends.take _).length = (s.hist.take _).length
    rw [List.length_take, List.length_take, h.len]
  · show lastE (s.ends.take (leftL s keep)) ≤ lastE (s.ends.take (leftL s keep)) + 500
    omega
  · show lastE (s.ends.take (leftL s keep)) = 0 ∨ lastE (s.ends.take (leftL s keep)) ∈ s.ends.take (leftL s keep)
    rcases Decidable.em (s.ends.take (leftL s keep) = []) with e | e
    · left; rw [e]; rfl
    · right; exact lastE_mem e
  · have hi' : (s.ends.take (leftL s keep))[i]? = some e := hi
    rw [List.getElem?_take] at hi'
    split at hi'
    · exact h.small i e hi'
    · cases hi'
end Go.Proofs.YtggieffpehbfaaaDoor
