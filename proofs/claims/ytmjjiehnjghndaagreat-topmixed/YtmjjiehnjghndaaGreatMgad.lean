/-
  PROVED HERE: plain facts, with no word of the program: the rising list of all deals that edges name; the least of those that could be next, looked for along that list, is the program's next.
  Conditions: none.
  (Of these, what the claim wants: the rest was left out.)
  PROVED HERE: history.isOp, history.ends and history.Check answer as the plain functions of the text Plain say, whatever the list of ops; old memory stays as it was.
  Conditions: none.
  PROVED HERE: how a list of ops lies in memory, as a slice value that came in or that the program made itself; history.Check over such a value.
  Conditions: none.
  PROVED HERE: history.keep gives those ops of a list that a closure says yes to, in order, in new memory: for the two closures that the program hands it (the ops of a deal; the ops of the deals that commit). Old memory stays as it was.
  Conditions: none.
-/
import Derived.Test.YtmjjiehnjghndaaGreatMgab
import Derived.Test.YtmjjiehnjghndaaGreatMgac
import Derived.Test.YtmjjiehnjghndaaGreatProg
import Derived.WalkKit
import Derived.WalkSpells
import Derived.Handy
import Derived.Deep.RegionWith
namespace Go.Proofs.YtmjjiehnjghndaaGreat

theorem putL_mem (l : List Int) (n x : Int) : x ∈ putL l n ↔ x = n ∨ x ∈ l := by
  induction l with
  | nil => simp [putL]
  | cons a r ih =>
    unfold putL
    split
    · rename_i h; subst h; simp
    · split
      · simp
      · rw [List.mem_cons, ih, List.mem_cons]
        constructor
        · rintro (h | h | h)
          · exact .inr (.inl h)
          · exact .inl h
          · exact .inr (.inr h)
        · rintro (h | h | h)
          · exact .inr (.inl h)
          · exact .inl h
          · exact .inr (.inr h)
/-- All deals that edges name, rising. -/
def namedI (l : List Edge2) : List Int := l.foldl (fun d e => putL (putL d e.1) e.2) []
theorem namedI_snoc (l : List Edge2) (e : Edge2) : namedI (l ++ [e]) = putL (putL (namedI l) e.1) e.2 := by simp [namedI]
theorem rev_ind {P : List Edge2 → Prop} (h0 : P []) (h1 : ∀ l e, P l → P (l ++ [e])) (l : List Edge2) : P l := by
  have : ∀ n (l : List Edge2), l.length = n → P l := by
    intro n
    induction n with
    | zero => intro l hl; rw [List.length_eq_zero_iff.1 hl]; exact h0
    | succ n ih =>
      intro l hl
      have hne : l ≠ [] := fun e => by rw [e] at hl; simp at hl
      rw [← List.dropLast_concat_getLast hne]
      exact h1 _ _ (ih _ (by rw [List.length_dropLast, hl]; rfl))
  exact this _ l rfl
theorem namedI_mem (l : List Edge2) (x : Int) : x ∈ namedI l ↔ ∃ e ∈ l, x = e.1 ∨ x = e.2 := by
  refine rev_ind (P := fun l => x ∈ namedI l ↔ ∃ e ∈ l, x = e.1 ∨ x = e.2) (by simp [namedI]) (fun l e ih => ?_) l
  rw [namedI_snoc, putL_mem, putL_mem, ih]
  constructor
  · rintro (h | h | ⟨f, hf, h⟩)
    · exact ⟨e, by simp, .inr h⟩
    · exact ⟨e, by simp, .inl h⟩
    · exact ⟨f, List.mem_append_left _ hf, h⟩
  · rintro ⟨f, hf, h⟩
    rcases List.mem_append.1 hf with hf | hf
    · exact .inr (.inr ⟨f, hf, h⟩)
    · rw [List.mem_singleton.1 hf] at h
      rcases h with h | h
      · exact .inr (.inl h)
      · exact .inl h
theorem namedS_I (l : List Edge2) (t : Nat) : namedS l t = inB (namedI l) (t : Int) := by
  rw [Bool.eq_iff_iff, inB_iff, namedI_mem]
  unfold namedS
  rw [List.any_eq_true]
  constructor
  · rintro ⟨e, he, h⟩
    simp only [Bool.or_eq_true, beq_iff_eq] at h
    exact ⟨e, he, h.imp Eq.symm Eq.symm⟩
  · rintro ⟨e, he, h⟩
    exact ⟨e, he, by simp only [Bool.or_eq_true, beq_iff_eq]; exact h.imp Eq.symm Eq.symm⟩
/-- Those of a list that are not out yet. -/
def leftS (d out : List Int) : Set7 := fun t => inB d (t : Int) && !inB out (t : Int)
theorem any_same {q r : Edge2 → Bool} : ∀ {l : List Edge2}, (∀ e ∈ l, q e = r e) → l.any q = l.any r := by
  intro l
  induction l with
  | nil => intro _; rfl
  | cons a t ih =>
    intro h
    rw [List.any_cons, List.any_cons, h a (List.mem_cons_self ..), ih fun e he => h e (List.mem_cons_of_mem _ he)]
theorem any_cnt {s : Set7} (h : anyS s = false) : cntS s = 0 := by
  have hz : ∀ k, k < 7 → s k = false := fun k hk => by
    have := List.any_eq_false.1 h k (List.mem_range.2 hk)
    simpa using this
  unfold cntS
  rw [hz 0 (by omega), hz 1 (by omega), hz 2 (by omega), hz 3 (by omega), hz 4 (by omega), hz 5 (by omega), hz 6 (by omega)]
  rfl
end Go.Proofs.YtmjjiehnjghndaaGreat

namespace Go.Proofs.YtmjjiehnjghndaaGreat
open Go.RowKit

/-- The ops lie in memory from an address on, three numbers each. -/
def OpsAt (w : World) (b off : Nat) (l : List Op3) : Prop :=
  ∀ i, i < l.length → w.cell? ⟨b, off + i * 3, none⟩ = some (.int .i64 (l.getD i (0, 0, 0)).1) ∧ w.cell? ⟨b, off + i * 3 + 1, none⟩ = some (.int .i64 (l.getD i (0, 0, 0)).2.1) ∧ w.cell? ⟨b, off + i * 3 + 2, none⟩ = some (.int .i64 (l.getD i (0, 0, 0)).2.2)

theorem ret_bool {x y : Bool} (h : x = y) : Ending.returned (.bool x) = .returned (.bool y) := by rw [h]

theorem ends_any (a : Int) (w : World) : Calls Tryz.prog 34 #[.int .i64 a] w fun e w' => e = .returned (.bool (endsB a)) ∧ w' = w := by
  go_enter Tryz.func34, Tryz.ntmps34
  go_wp2
  all_goals go_ret
  all_goals exact ⟨by simp_all [endsB], rfl⟩

set_option maxHeartbeats 1000000 in
theorem isOp_any (t a i : Int) (w : World) : Calls Tryz.prog 33 #[.agg #[.int .i64 t, .int .i64 a, .int .i64 i]] w fun e w' => e = .returned (.bool (isOpB (t, a, i))) ∧ w' = w.alloc (.cells #[.int .i64 t, .int .i64 a, .int .i64 i] 38) := by
  go_enter Tryz.func33, Tryz.ntmps33
  go_wp2_with (go_at_call 34; refine (ends_any _ _).mono ?_; rintro e w' ⟨rfl, rfl⟩)
  all_goals go_ret
  all_goals refine ⟨ret_bool ?_, rfl⟩
  all_goals (first | (simp_all [isOpB]; done) | (simp_all [isOpB]; omega))

/-- An error as the program makes it: nil, or an Errno. -/
def errV (n : Int) : Value := if n = 0 then .nilIface else .iface 43 (.int .i64 n)
theorem errV_zero : errV 0 = .nilIface := rfl
theorem errV_ne {n : Int} (h : n ≠ 0) : errV n = .iface 43 (.int .i64 n) := if_neg h
theorem ret_chk {x y : Int} {v u : Value} (h : x = y) (h2 : v = u) : Ending.returned (.tuple #[.int .i64 x, v]) = .returned (.tuple #[.int .i64 y, u]) := by rw [h, h2]

/-- The array of those that have ended. -/
def EndedAt (w : World) (B : Nat) (l : List Op3) : Prop := ∀ j, j < 7 → w.cell? ⟨B, j, none⟩ = some (.bool (endedIn l (j : Nat))) ∧ w.frozen? ⟨B, j, none⟩ = false
theorem EndedAt.lt {w : World} {B : Nat} {l : List Op3} (h : EndedAt w B l) : B < w.heap.size := by
  rcases Nat.lt_or_ge B w.heap.size with h0 | h0
  · exact h0
  · have := (h 0 (by omega)).1
    simp [World.cell?, Array.getElem?_eq_none h0] at this
theorem ended_start (l : List Op3) (w : World) : EndedAt (w.alloc (.cells #[.bool false, .bool false, .bool false, .bool false, .bool false, .bool false, .bool false] 74)) w.heap.size (List.take 0 l) := by
  intro j hj
  match j, hj with
  | 0, _ => exact ⟨by simp [endedIn], by simp⟩
  | 1, _ => exact ⟨by simp [endedIn], by simp⟩
  | 2, _ => exact ⟨by simp [endedIn], by simp⟩
  | 3, _ => exact ⟨by simp [endedIn], by simp⟩
  | 4, _ => exact ⟨by simp [endedIn], by simp⟩
  | 5, _ => exact ⟨by simp [endedIn], by simp⟩
  | 6, _ => exact ⟨by simp [endedIn], by simp⟩

theorem endedIn_snoc (l : List Op3) (o : Op3) (t : Int) : endedIn (l ++ [o]) t = (endedIn l t || (o.1 == t && endsB o.2.1)) := by simp [endedIn]
theorem EndedAt.step {w : World} {B : Nat} {l : List Op3} {t a i : Int} (h : EndedAt w B l) (h1 : 1 ≤ t) (h6 : t ≤ 6) (hen : endedIn l t = false) (o1 o2 : Obj) :
    EndedAt (((w.setCell ⟨B, t.toNat, none⟩ (.bool (endsB a))).alloc o1).alloc o2).drew B (l ++ [(t, a, i)]) := by
  have hlt := h.lt
  intro j hj
  have hz : (w.setCell ⟨B, t.toNat, none⟩ (.bool (endsB a))).heap.size = w.heap.size := by simp
  obtain ⟨hc, hf⟩ := h j hj
  obtain ⟨hct, _⟩ := h t.toNat (by omega)
  constructor
  · rw [World.cell?_drew, World.cell?_alloc_lt _ _ ⟨B, j, none⟩ (by simp; omega), World.cell?_alloc_lt _ _ ⟨B, j, none⟩ (by simp; omega), endedIn_snoc]
    by_cases hjt : j = t.toNat
    · subst hjt
      rw [World.cell?_setCell_same _ _ _ hct, show ((t.toNat : Nat) : Int) = t by omega, hen]; simp
    · rw [World.cell?_setCell_other _ _ _ _ (by intro he; injection he with _ he2 _; exact hjt he2.symm), hc]
      have : (t == (j : Int)) = false := by simp; omega
      simp [this]
  · rw [World.frozen?_drew, World.frozen?_alloc_old _ _ ⟨B, j, none⟩ (by simp; omega), World.frozen?_alloc_old _ _ ⟨B, j, none⟩ (by simp; omega)]
    simpa using hf
theorem isOp_tx {o : Op3} (h : isOpB o = true) : 1 ≤ o.1 ∧ o.1 ≤ 6 := by
  simp [isOpB] at h; omega
theorem chk_at1 {l : List Op3} {k : Nat} {o : Op3} (hk : k < l.length) (h : chkFrom (l.take k) (l.drop k) = chk l) (hd : l.drop k = o :: l.drop (k + 1)) (ho : isOpB o = false) : chk l = (k, 1) := by
  rw [← h, hd, chkFrom_bad1 _ _ ho, List.length_take, Nat.min_eq_left (by omega)]
theorem chk_at2 {l : List Op3} {k : Nat} {o : Op3} (hk : k < l.length) (h : chkFrom (l.take k) (l.drop k) = chk l) (hd : l.drop k = o :: l.drop (k + 1)) (ho : isOpB o = true) (he : endedIn (l.take k) o.1 = true) : chk l = (k, 6) := by
  rw [← h, hd, chkFrom_bad2 _ ho he, List.length_take, Nat.min_eq_left (by omega)]
theorem chk_step {l : List Op3} {k : Nat} {o : Op3} (h : chkFrom (l.take k) (l.drop k) = chk l) (hd : l.drop k = o :: l.drop (k + 1)) (ht : l.take (k + 1) = l.take k ++ [o]) (ho : isOpB o = true) (he : endedIn (l.take k) o.1 = false) : chkFrom (l.take (k + 1)) (l.drop (k + 1)) = chk l := by
  rw [← h, hd, chkFrom_go _ ho he, ht]
theorem chk_end {l : List Op3} {k : Nat} (hk : l.length ≤ k) (h : chkFrom (l.take k) (l.drop k) = chk l) : chk l = (0, 0) := by
  rw [← h, List.drop_of_length_le hk]; rfl

set_option maxHeartbeats 2000000 in
theorem check_any (l : List Op3) (ad : Option Addr) (b off cap : Nat) (w : World) (ha : 0 < l.length → ad = some ⟨b, off, none⟩) (hbB : b < w.heap.size ∨ l = []) (hops : OpsAt w b off l) :
    Calls Tryz.prog 16 #[.slice ad l.length cap] w fun e w' => e = .returned (.tuple #[.int .i64 (chk l).1, errV (chk l).2]) ∧ Below w.heap.size w w' := by
  by_cases h40 : 40 < l.length
  · have hc : chk l = (0, 4) := by unfold chk; rw [if_pos h40]
    have HC : Hid (chk l = (0, 4)) := hc
    clear hc hops ha hbB
    go_enter Tryz.func16, Tryz.ntmps16
    go_wp2
    go_ret2
    exact ⟨ret_chk (by rw [HC.out]; rfl) (by rw [HC.out]; rfl), Below.refl _ _⟩
  · have HC : Hid (chk l = chkFrom [] l) := chk_short l (by omega)
    go_enter Tryz.func16, Tryz.ntmps16
    go_wp2
    go_loopw [13] (fun v13 wr => ∃ k : Nat, k ≤ l.length ∧ v13 = .int .i64 k ∧ chkFrom (l.take k) (l.drop k) = chk l ∧ EndedAt wr w.heap.size (l.take k) ∧ Below w.heap.size w wr) (fun v13 _ => l.length - (intOf v13).toNat)
    case atStart => exact ⟨0, Nat.zero_le _, rfl, by rw [HC.out]; simp, ended_start l w, (Below.refl _ _).alloc (Nat.le_refl _) _⟩
    case round =>
      obtain ⟨k, hk, rfl, hck, hend, hbel⟩ := hrel
      have HK : Hid (chkFrom (l.take k) (l.drop k) = chk l) := hck
      clear hck
      by_cases hlt : k < l.length
      · have hsz : w.heap.size < wr.heap.size := hend.lt
        obtain rfl := ha (by omega)
        obtain ⟨c0, c1, c2⟩ := hops k hlt
        have hb1 : b < w.heap.size := by
          rcases hbB with h | h
          · exact h
          · subst h; simp at hlt
        rw [← hbel.cell (p := ⟨b, off + k * 3, none⟩) hb1] at c0
        rw [← hbel.cell (p := ⟨b, off + k * 3 + 1, none⟩) hb1] at c1
        rw [← hbel.cell (p := ⟨b, off + k * 3 + 2, none⟩) hb1] at c2
        obtain ⟨⟨t, a, i⟩, ho⟩ : ∃ o : Op3, l.getD k (0, 0, 0) = o := ⟨_, rfl⟩
        rw [ho] at c0 c1 c2
        have hdr : l.drop k = (t, a, i) :: l.drop (k + 1) := by
          rw [← ho]; simp [List.getD, List.getElem?_eq_getElem hlt]
        have HD : Hid (l.drop k = (t, a, i) :: l.drop (k + 1)) := hdr
        have HT : Hid (l.take (k + 1) = l.take k ++ [(t, a, i)]) := by
          show l.take (k + 1) = l.take k ++ [(t, a, i)]
          rw [List.take_succ_eq_append_getElem hlt, ← ho]; simp [List.getD, List.getElem?_eq_getElem hlt]
        clear ho hdr hops ha hbB
        simp only at c0 c1 c2
        cases hop : isOpB (t, a, i) with
        | false =>
          go_wp2_with (first | (go_at_call 33; refine (isOp_any _ _ _ _).mono ?_; rintro e w' ⟨rfl, rfl⟩))
          go_ret2
          have hres := chk_at1 hlt HK.out HD.out hop
          exact ⟨ret_chk (by rw [hres]) (by rw [hres]; rfl), (((hbel.alloc (by omega) _).alloc (by simp; omega) _))⟩
        | true =>
          have htb := isOp_tx hop
          obtain ⟨ht1, ht6⟩ := htb
          have hce := hend t.toNat (by omega)
          rw [show ((t.toNat : Nat) : Int) = t by omega] at hce
          obtain ⟨hc1, hc2⟩ := hce
          cases hen : endedIn (l.take k) t with
          | true =>
            rw [hen] at hc1
            go_wp2_with (first | (go_at_call 33; refine (isOp_any _ _ _ _).mono ?_; rintro e w' ⟨rfl, rfl⟩))
            go_ret2
            have hres := chk_at2 hlt HK.out HD.out hop hen
            exact ⟨ret_chk (by rw [hres]) (by rw [hres]; rfl), (((hbel.alloc (by omega) _).alloc (by simp; omega) _))⟩
          | false =>
            rw [hen] at hc1
            go_wp2_with (first | (go_at_call 33; refine (isOp_any _ _ _ _).mono ?_; rintro e w' ⟨rfl, rfl⟩))
            go_region_with (go_at_call 34; refine (ends_any _ _).mono ?_; rintro e w' ⟨rfl, rfl⟩)
            all_goals
              go_wp2
              go_roundw
              case rel => exact ⟨k + 1, by omega, by go_num, chk_step HK.out HD.out HT.out hop hen, by rw [HT.out]; exact hend.step ht1 ht6 hen _ _, ((((hbel.setCell (by simp) _).alloc (by simp; omega) _).alloc (by simp; omega) _)).drew⟩
              case measure => simp [intOf]; omega
      · go_wp2
        go_ret2
        have hres := chk_end (by omega) HK.out
        exact ⟨ret_chk (by rw [hres]; rfl) (by rw [hres]; rfl), hbel⟩
end Go.Proofs.YtmjjiehnjghndaaGreat

namespace Go.Proofs.YtmjjiehnjghndaaGreat
open Go.RowKit

/-- The cells of ops. -/
def flat : List Op3 → List Value
  | [] => []
  | o :: r => .int .i64 o.1 :: .int .i64 o.2.1 :: .int .i64 o.2.2 :: flat r
theorem flat_length (l : List Op3) : (flat l).length = l.length * 3 := by
  induction l with
  | nil => rfl
  | cons o r ih => simp [flat, ih]; omega
theorem flat_append (l m : List Op3) : flat (l ++ m) = flat l ++ flat m := by
  induction l with
  | nil => rfl
  | cons o r ih => simp [flat, ih]
theorem flat_one (l : List Op3) : ∀ u ∈ flat l, u.oneCell' = true := by
  induction l with
  | nil => intro u hu; cases hu
  | cons o r ih =>
    intro u hu
    simp only [flat, List.mem_cons] at hu
    rcases hu with rfl | rfl | rfl | hu
    · rfl
    · rfl
    · rfl
    · exact ih u hu
theorem flat_at (l : List Op3) : ∀ i, i < l.length → (flat l)[i * 3]? = some (.int .i64 (l.getD i (0, 0, 0)).1) ∧ (flat l)[i * 3 + 1]? = some (.int .i64 (l.getD i (0, 0, 0)).2.1) ∧ (flat l)[i * 3 + 2]? = some (.int .i64 (l.getD i (0, 0, 0)).2.2) := by
  induction l with
  | nil => intro i hi; cases hi
  | cons o r ih =>
    intro i hi
    cases i with
    | zero => exact ⟨rfl, rfl, rfl⟩
    | succ i =>
      have := ih i (by simpa using hi)
      rw [show (i + 1) * 3 = i * 3 + 3 by omega]
      simpa [flat] using this
/-- From cells to ops, and back. -/
theorem opsAt_of {w : World} {b off : Nat} {l : List Op3} (h : ∀ j u, (flat l)[j]? = some u → w.cell? ⟨b, off + j, none⟩ = some u) : OpsAt w b off l := by
  intro i hi
  obtain ⟨h0, h1, h2⟩ := flat_at l i hi
  exact ⟨h _ _ h0, by rw [Nat.add_assoc]; exact h _ _ h1, by rw [Nat.add_assoc]; exact h _ _ h2⟩
theorem OpsAt.flat {w : World} {b off : Nat} {l : List Op3} (h : OpsAt w b off l) : ∀ j u, (flat l)[j]? = some u → w.cell? ⟨b, off + j, none⟩ = some u := by
  intro j u hj
  have hlt : j < l.length * 3 := by
    rw [← flat_length]
    exact (List.getElem?_eq_some_iff.1 hj).1
  obtain ⟨c0, c1, c2⟩ := h (j / 3) (by omega)
  obtain ⟨f0, f1, f2⟩ := flat_at l (j / 3) (by omega)
  rcases (show j = j / 3 * 3 ∨ j = j / 3 * 3 + 1 ∨ j = j / 3 * 3 + 2 by omega) with e | e | e
  · rw [← e] at c0 f0; rw [f0] at hj; rw [c0, ← hj]
  · rw [Nat.add_assoc, ← e] at c1; rw [← e] at f1; rw [f1] at hj; rw [c1, ← hj]
  · rw [Nat.add_assoc, ← e] at c2; rw [← e] at f2; rw [f2] at hj; rw [c2, ← hj]
theorem OpsAt.below {w w1 : World} {b off B : Nat} {l : List Op3} (h : OpsAt w b off l) (hb : Below B w w1) (hB : b < B ∨ l = []) : OpsAt w1 b off l := by
  intro i hi
  have hB' : b < B := by
    rcases hB with h | h
    · exact h
    · subst h; cases hi
  rw [hb.cell (p := ⟨b, off + i * 3, none⟩) hB', hb.cell (p := ⟨b, off + i * 3 + 1, none⟩) hB', hb.cell (p := ⟨b, off + i * 3 + 2, none⟩) hB']
  exact h i hi


theorem infoOp : (Tryz.prog.info? 38).map (fun i => (i.zero, i.size, i.bytes)) = some (some (.agg #[.int .i64 0, .int .i64 0, .int .i64 0]), 3, 24) := by kernel_rfl

/-- A slice value that holds a list of ops. -/
def IsOps (w : World) (v : Value) (l : List Op3) : Prop :=
  ∃ (ad : Option Addr) (b off cap : Nat), v = .slice ad l.length cap ∧ (0 < l.length → ad = some ⟨b, off, none⟩) ∧ (ad = none → l.length = 0 ∧ cap = 0) ∧ (b < w.heap.size ∨ l = []) ∧ OpsAt w b off l
theorem IsOps.below {w w1 : World} {B : Nat} {v : Value} {l : List Op3} (h : IsOps w v l) (hb : Below B w w1) (hB : w.heap.size ≤ B) : IsOps w1 v l := by
  obtain ⟨ad, b, off, cap, hv, ha, hn, hbB, hops⟩ := h
  have hs := hb.size
  refine ⟨ad, b, off, cap, hv, ha, hn, ?_, hops.below hb ?_⟩
  · rcases hbB with h | h
    · exact .inl (by omega)
    · exact .inr h
  · rcases hbB with h | h
    · exact .inl (by omega)
    · exact .inr h
theorem isOps_nil (w : World) : IsOps w (.slice none 0 0) [] := ⟨none, 0, 0, 0, rfl, fun h => absurd h (by simp), fun _ => ⟨rfl, rfl⟩, .inr rfl, fun i hi => by simp at hi⟩
theorem isOps_own {w : World} {base e n : Nat} {v : Value} {l : List Op3} (h : w.ownsRow base e 3 v n (flat l)) (hl : l.length = n) : IsOps w v l := by
  have h' := h
  obtain ⟨_, ⟨hv, hd⟩ | ⟨g, cap, cur, hv, hb, hg, hn, hm, hsz, htk⟩⟩ := h'
  · have : l = [] := List.length_eq_zero_iff.1 (by omega)
    subst this
    rw [hv]
    exact isOps_nil w
  · refine ⟨some ⟨g, 0, none⟩, g, 0, cap, by rw [hl]; exact hv, fun _ => rfl, fun h => (by simp at h), .inl (h.lt g (by rw [hv]; rfl)).2, opsAt_of fun j u hj => ?_⟩
    have := h.cells (g := g) (by rw [hv]; rfl) j u hj
    rw [Addr.add_lit] at this
    exact this
theorem check_v (l : List Op3) (v : Value) (w : World) (h : IsOps w v l) :
    Calls Tryz.prog 16 #[v] w fun e w' => e = .returned (.tuple #[.int .i64 (chk l).1, errV (chk l).2]) ∧ Below w.heap.size w w' := by
  obtain ⟨ad, b, off, cap, rfl, ha, _, hbB, hops⟩ := h
  exact check_any l ad b off cap w ha hbB hops
theorem check_ok (l : List Op3) (v : Value) (w : World) (h : IsOps w v l) (hc : (chk l).2 = 0) :
    Calls Tryz.prog 16 #[v] w fun e w' => e = .returned (.tuple #[.int .i64 (chk l).1, .nilIface]) ∧ Below w.heap.size w w' := by
  refine (check_v l v w h).mono ?_
  rintro e w' ⟨he, hb⟩
  rw [hc] at he
  exact ⟨he, hb⟩
theorem check_bad (l : List Op3) (v : Value) (w : World) (h : IsOps w v l) (hc : (chk l).2 ≠ 0) :
    Calls Tryz.prog 16 #[v] w fun e w' => e = .returned (.tuple #[.int .i64 (chk l).1, .iface 43 (.int .i64 (chk l).2)]) ∧ Below w.heap.size w w' := by
  refine (check_v l v w h).mono ?_
  rintro e w' ⟨he, hb⟩
  rw [errV_ne hc] at he
  exact ⟨he, hb⟩
/-- One op just built lies there. -/
theorem one_at (w : World) (t a i : Int) : ∀ j u, (flat [(t, a, i)])[j]? = some u → (w.alloc (.cells #[.int .i64 t, .int .i64 a, .int .i64 i] 38)).cell? ((⟨w.heap.size, 0, none⟩ : Addr).add j) = some u := by
  intro j u hj
  match j, hj with
  | 0, hj => simp [flat] at hj; subst hj; simp [Addr.add]
  | 1, hj => simp [flat] at hj; subst hj; simp [Addr.add]
  | 2, hj => simp [flat] at hj; subst hj; simp [Addr.add]
  | k + 3, hj => simp [flat] at hj
end Go.Proofs.YtmjjiehnjghndaaGreat

namespace Go.Proofs.YtmjjiehnjghndaaGreat
open Go.RowKit

theorem isOf1_any (t a i tx : Int) (c : Nat) (w : World) (hc : w.cell? ⟨c, 0, none⟩ = some (.int .i64 tx)) (hcl : c < w.heap.size) :
    Calls Tryz.prog 70 #[.agg #[.int .i64 t, .int .i64 a, .int .i64 i], .pointer (some ⟨c, 0, none⟩)] w fun e w' => e = .returned (.bool (t == tx)) ∧ w' = w.alloc (.cells #[.int .i64 t, .int .i64 a, .int .i64 i] 38) := by
  go_enter Tryz.func70, Tryz.ntmps70
  go_wp2
  go_ret
  exact ⟨rfl, rfl⟩
theorem done1_any (t a i : Int) (c : Nat) (f : Nat → Bool) (w : World) (hc : ∀ j, j < 7 → w.cell? ⟨c, j, none⟩ = some (.bool (f j))) (hcl : c < w.heap.size) (ht : 1 ≤ t) (ht6 : t ≤ 6) :
    Calls Tryz.prog 60 #[.agg #[.int .i64 t, .int .i64 a, .int .i64 i], .pointer (some ⟨c, 0, none⟩)] w fun e w' => e = .returned (.bool (f t.toNat)) ∧ w' = w.alloc (.cells #[.int .i64 t, .int .i64 a, .int .i64 i] 38) := by
  have hc' := hc t.toNat (by omega)
  clear hc
  go_enter Tryz.func60, Tryz.ntmps60
  go_wp2
  go_ret
  exact ⟨rfl, rfl⟩
theorem filter_snoc (q : Op3 → Bool) (l : List Op3) (k : Nat) (o : Op3) (h : l.take (k + 1) = l.take k ++ [o]) : (l.take (k + 1)).filter q = (l.take k).filter q ++ (if q o then [o] else []) := by
  rw [h, List.filter_append]
  cases hq : q o <;> simp [hq]
theorem take_len (q : Op3 → Bool) (l : List Op3) (k : Nat) : ((l.take k).filter q).length ≤ k := by
  have h1 := List.length_filter_le q (l.take k)
  have h2 : (l.take k).length ≤ k := List.length_take_le _ _
  omega

set_option maxHeartbeats 2000000 in
theorem keep_of (l : List Op3) (ad : Option Addr) (b off cap : Nat) (c : Nat) (tx : Int) (w : World) (hlen : l.length ≤ 140737488351) (ha : 0 < l.length → ad = some ⟨b, off, none⟩) (hbB : b < w.heap.size ∨ l = []) (hops : OpsAt w b off l) (hc : w.cell? ⟨c, 0, none⟩ = some (.int .i64 tx)) (hcl : c < w.heap.size) :
    Calls Tryz.prog 52 #[.slice ad l.length cap, .func (.func 70) #[] #[.pointer (some ⟨c, 0, none⟩)]] w fun e w' => ∃ v, e = .returned v ∧ IsOps w' v (l.filter (fun o : Op3 => o.1 == tx)) ∧ Below w.heap.size w w' := by
  go_enter Tryz.func52, Tryz.ntmps52
  go_wp2
  go_loopw [5, 10] (fun v5 v10 wr => ∃ k : Nat, k ≤ l.length ∧ v10 = .int .i64 k ∧ wr.ownsRow w.heap.size 38 3 v5 ((l.take k).filter (fun o : Op3 => o.1 == tx)).length (flat ((l.take k).filter (fun o : Op3 => o.1 == tx))) ∧ Below w.heap.size w wr) (fun _ v10 _ => l.length - (intOf v10).toNat)
  case atStart => exact ⟨0, Nat.zero_le _, rfl, World.ownsRow_nil _ _ _ _, Below.refl _ _⟩
  case round =>
    obtain ⟨k, hk, rfl, hown, hbel⟩ := hrel
    by_cases hlt : k < l.length
    · obtain rfl := ha (by omega)
      obtain ⟨c0, c1, c2⟩ := hops k hlt
      have hb1 : b < w.heap.size := by
        rcases hbB with h | h
        · exact h
        · subst h; simp at hlt
      rw [← hbel.cell (p := ⟨b, off + k * 3, none⟩) hb1] at c0
      rw [← hbel.cell (p := ⟨b, off + k * 3 + 1, none⟩) hb1] at c1
      rw [← hbel.cell (p := ⟨b, off + k * 3 + 2, none⟩) hb1] at c2
      obtain ⟨⟨t, a, i⟩, ho⟩ : ∃ o : Op3, l.getD k (0, 0, 0) = o := ⟨_, rfl⟩
      rw [ho] at c0 c1 c2
      
      have HT : Hid (l.take (k + 1) = l.take k ++ [(t, a, i)]) := by
        show l.take (k + 1) = l.take k ++ [(t, a, i)]
        rw [List.take_succ_eq_append_getElem hlt, ← ho]; simp [List.getD, List.getElem?_eq_getElem hlt]
      have hsz := hbel.size
      rw [← hbel.cell (p := ⟨c, 0, none⟩) hcl] at hc
      have hkl := take_len (fun o : Op3 => o.1 == tx) l k
      clear ho hops ha hbB
      simp only at c0 c1 c2
      cases hq : (fun o : Op3 => o.1 == tx) (t, a, i) with
      | false =>
        have HQ : Hid ((fun o : Op3 => o.1 == tx) (t, a, i) = false) := hq
        simp only at hq
        go_wp2_with (go_at_call 70; refine (isOf1_any t a i tx c _ (by simpa [World.cell?_alloc_lt, show c < wr.heap.size by omega] using hc) (by simp; omega)).mono ?_; rintro e w' ⟨rfl, rfl⟩)
        go_roundw
        case rel => exact ⟨k + 1, by omega, by go_num, by rw [filter_snoc _ l k _ HT.out, HQ.out]; simpa using (hown.alloc _).alloc _, (hbel.alloc (by omega) _).alloc (by simp; omega) _⟩
        case measure => simp [intOf]; omega
      | true =>
        have HQ : Hid ((fun o : Op3 => o.1 == tx) (t, a, i) = true) := hq
        simp only at hq
        obtain ⟨i0, hi, hz0, hs0, hy0⟩ := info_parts infoOp
        have HI : Hid (Tryz.prog.info? 38 = some i0 ∧ i0.zero = some (.agg #[.int .i64 0, .int .i64 0, .int .i64 0]) ∧ i0.size = 3 ∧ i0.bytes = 24) := ⟨hi, hz0, hs0, hy0⟩
        clear hi hz0 hs0 hy0
        go_wp2_with (first | (go_at_call 70; refine (isOf1_any t a i tx c _ (by simpa [World.cell?_alloc_lt, show c < wr.heap.size by omega] using hc) (by simp; omega)).mono ?_; rintro e w' ⟨rfl, rfl⟩) | (at_builtin; refine wpList_append_own _ rfl (.tmp 17) (.tmp 19) 22 rfl w.heap.size 38 i0 (.agg #[.int .i64 0, .int .i64 0, .int .i64 0]) 3 24 Tryz.underlying22 HI.out.1 HI.out.2.1 HI.out.2.2.1 HI.out.2.2.2 rfl (by decide) u5 ((l.take k).filter (fun o : Op3 => o.1 == tx)).length (flat ((l.take k).filter (fun o : Op3 => o.1 == tx))) rfl (((hown.alloc _).alloc _).alloc _) ⟨wr.heap.size + 1 + 1, 0, none⟩ 1 1 (flat [(t, a, i)]) rfl rfl (by have := one_at ((wr.alloc (.cells #[.int .i64 t, .int .i64 a, .int .i64 i] 38)).alloc (.cells #[.int .i64 t, .int .i64 a, .int .i64 i] 38)) t a i; simpa using this) (flat_one _) (by unfold maxLen; omega) (by omega) (by simp; omega) ?_; intro v' w1 hown1 hgr1 hnil1))
        have hB1 := (((hbel.alloc hsz _).alloc (by simp; omega) _).alloc (by simp; omega) _).grown hgr1 (by simp; omega) (fun m hm => (hown.lt m hm).1)
        go_roundw
        case rel => exact ⟨k + 1, by omega, by go_num, by rw [filter_snoc _ l k _ HT.out, HQ.out]; simpa [flat_append] using hown1, hB1⟩
        case measure => simp [intOf]; omega
    · go_wp2
      go_ret
      exact ⟨_, rfl, by rw [List.take_of_length_le (by omega)] at hown; exact isOps_own hown rfl, hbel⟩

set_option maxHeartbeats 2000000 in
theorem keep_done (l : List Op3) (ad : Option Addr) (b off cap : Nat) (c : Nat) (f : Nat → Bool) (hin : ∀ o ∈ l, 1 ≤ o.1 ∧ o.1 ≤ 6) (w : World) (hlen : l.length ≤ 140737488351) (ha : 0 < l.length → ad = some ⟨b, off, none⟩) (hbB : b < w.heap.size ∨ l = []) (hops : OpsAt w b off l) (hc : ∀ j, j < 7 → w.cell? ⟨c, j, none⟩ = some (.bool (f j))) (hcl : c < w.heap.size) :
    Calls Tryz.prog 52 #[.slice ad l.length cap, .func (.func 60) #[] #[.pointer (some ⟨c, 0, none⟩)]] w fun e w' => ∃ v, e = .returned v ∧ IsOps w' v (l.filter (fun o : Op3 => f o.1.toNat)) ∧ Below w.heap.size w w' := by
  go_enter Tryz.func52, Tryz.ntmps52
  go_wp2
  go_loopw [5, 10] (fun v5 v10 wr => ∃ k : Nat, k ≤ l.length ∧ v10 = .int .i64 k ∧ wr.ownsRow w.heap.size 38 3 v5 ((l.take k).filter (fun o : Op3 => f o.1.toNat)).length (flat ((l.take k).filter (fun o : Op3 => f o.1.toNat))) ∧ Below w.heap.size w wr) (fun _ v10 _ => l.length - (intOf v10).toNat)
  case atStart => exact ⟨0, Nat.zero_le _, rfl, World.ownsRow_nil _ _ _ _, Below.refl _ _⟩
  case round =>
    obtain ⟨k, hk, rfl, hown, hbel⟩ := hrel
    by_cases hlt : k < l.length
    · obtain rfl := ha (by omega)
      obtain ⟨c0, c1, c2⟩ := hops k hlt
      have hb1 : b < w.heap.size := by
        rcases hbB with h | h
        · exact h
        · subst h; simp at hlt
      rw [← hbel.cell (p := ⟨b, off + k * 3, none⟩) hb1] at c0
      rw [← hbel.cell (p := ⟨b, off + k * 3 + 1, none⟩) hb1] at c1
      rw [← hbel.cell (p := ⟨b, off + k * 3 + 2, none⟩) hb1] at c2
      obtain ⟨⟨t, a, i⟩, ho⟩ : ∃ o : Op3, l.getD k (0, 0, 0) = o := ⟨_, rfl⟩
      rw [ho] at c0 c1 c2
      have hto := hin (t, a, i) (by rw [← ho]; simp [List.getD, List.getElem?_eq_getElem hlt])
      have HT : Hid (l.take (k + 1) = l.take k ++ [(t, a, i)]) := by
        show l.take (k + 1) = l.take k ++ [(t, a, i)]
        rw [List.take_succ_eq_append_getElem hlt, ← ho]; simp [List.getD, List.getElem?_eq_getElem hlt]
      have hsz := hbel.size
      have hcw : ∀ j, j < 7 → wr.cell? ⟨c, j, none⟩ = some (.bool (f j)) := fun j hj => by rw [hbel.cell (p := ⟨c, j, none⟩) hcl]; exact hc j hj
      have HCW : Hid (∀ j, j < 7 → wr.cell? ⟨c, j, none⟩ = some (.bool (f j))) := hcw
      have HC0 : Hid (∀ j, j < 7 → w.cell? ⟨c, j, none⟩ = some (.bool (f j))) := hc
      clear hcw hc
      obtain ⟨ht1, ht6⟩ := hto
      simp only at ht1 ht6
      have hkl := take_len (fun o : Op3 => f o.1.toNat) l k
      clear ho hops ha hbB
      simp only at c0 c1 c2
      cases hq : (fun o : Op3 => f o.1.toNat) (t, a, i) with
      | false =>
        have HQ : Hid ((fun o : Op3 => f o.1.toNat) (t, a, i) = false) := hq
        simp only at hq
        go_wp2_with (go_at_call 60; refine (done1_any t a i c f _ (fun j hj => by rw [World.cell?_alloc_lt _ _ ⟨c, j, none⟩ (by simp; omega)]; exact HCW.out j hj) (by simp; omega) ht1 ht6).mono ?_; rintro e w' ⟨rfl, rfl⟩)
        go_roundw
        case rel => exact ⟨k + 1, by omega, by go_num, by rw [filter_snoc _ l k _ HT.out, HQ.out]; simpa using (hown.alloc _).alloc _, (hbel.alloc (by omega) _).alloc (by simp; omega) _⟩
        case measure => simp [intOf]; omega
      | true =>
        have HQ : Hid ((fun o : Op3 => f o.1.toNat) (t, a, i) = true) := hq
        simp only at hq
        obtain ⟨i0, hi, hz0, hs0, hy0⟩ := info_parts infoOp
        have HI : Hid (Tryz.prog.info? 38 = some i0 ∧ i0.zero = some (.agg #[.int .i64 0, .int .i64 0, .int .i64 0]) ∧ i0.size = 3 ∧ i0.bytes = 24) := ⟨hi, hz0, hs0, hy0⟩
        clear hi hz0 hs0 hy0
        go_wp2_with (first | (go_at_call 60; refine (done1_any t a i c f _ (fun j hj => by rw [World.cell?_alloc_lt _ _ ⟨c, j, none⟩ (by simp; omega)]; exact HCW.out j hj) (by simp; omega) ht1 ht6).mono ?_; rintro e w' ⟨rfl, rfl⟩) | (at_builtin; refine wpList_append_own _ rfl (.tmp 17) (.tmp 19) 22 rfl w.heap.size 38 i0 (.agg #[.int .i64 0, .int .i64 0, .int .i64 0]) 3 24 Tryz.underlying22 HI.out.1 HI.out.2.1 HI.out.2.2.1 HI.out.2.2.2 rfl (by decide) u5 ((l.take k).filter (fun o : Op3 => f o.1.toNat)).length (flat ((l.take k).filter (fun o : Op3 => f o.1.toNat))) rfl (((hown.alloc _).alloc _).alloc _) ⟨wr.heap.size + 1 + 1, 0, none⟩ 1 1 (flat [(t, a, i)]) rfl rfl (by have := one_at ((wr.alloc (.cells #[.int .i64 t, .int .i64 a, .int .i64 i] 38)).alloc (.cells #[.int .i64 t, .int .i64 a, .int .i64 i] 38)) t a i; simpa using this) (flat_one _) (by unfold maxLen; omega) (by omega) (by simp; omega) ?_; intro v' w1 hown1 hgr1 hnil1))
        have hB1 := (((hbel.alloc hsz _).alloc (by simp; omega) _).alloc (by simp; omega) _).grown hgr1 (by simp; omega) (fun m hm => (hown.lt m hm).1)
        go_roundw
        case rel => exact ⟨k + 1, by omega, by go_num, by rw [filter_snoc _ l k _ HT.out, HQ.out]; simpa [flat_append] using hown1, hB1⟩
        case measure => simp [intOf]; omega
    · go_wp2
      go_ret
      exact ⟨_, rfl, by rw [List.take_of_length_le (by omega)] at hown; exact isOps_own hown rfl, hbel⟩

end Go.Proofs.YtmjjiehnjghndaaGreat
