/-
  PROVED HERE: plain facts, with no word of the program: the rising list of all deals that edges name; the least of those that could be next, looked for along that list, is the program's next.
  Conditions: none.
  (Of these, what the claim wants: the rest was left out.)
  PROVED HERE: history.isOp, history.ends and history.Check answer as the plain functions of the text Plain say, whatever the list of ops; old memory stays as it was.
  Conditions: none.
-/
import Derived.Test.YtmjjiehnjghndaaDoorMgad
import Derived.Test.YtmjjiehnjghndaaDoorMgag
import Derived.Test.YtmjjiehnjghndaaDoorProg
import Derived.WalkKit
import Derived.WalkSpells
import Derived.Handy
import Derived.Deep.RegionWith
namespace Go.Proofs.YtmjjiehnjghndaaDoor

theorem putL_mem (l : List Int) (n x : Int) : x ∈ putL l n ↔ x = n ∨ x ∈ l := by
  induction l with
  | nil => simp [putL]
  | cons a r ih =>
    unfold putL
    split
    · rename_i h; subst h; simp
    · split
      · simp
      · rw [List.mem_cons, ih, List.mem_cons]
        constructor
        · rintro (h | h | h)
          · exact .inr (.inl h)
          · exact .inl h
          · exact .inr (.inr h)
        · rintro (h | h | h)
          · exact .inr (.inl h)
          · exact .inl h
          · exact .inr (.inr h)
theorem putL_rise {l : List Int} (h : l.Pairwise (· < ·)) (n : Int) : (putL l n).Pairwise (· < ·) := by
  induction l with
  | nil => simp [putL]
  | cons a r ih =>
    obtain ⟨h1, h2⟩ := List.pairwise_cons.1 h
    unfold putL
    split
    · exact h
    · rename_i hne
      split
      · rename_i hlt
        refine List.pairwise_cons.2 ⟨fun x hx => ?_, h⟩
        rcases List.mem_cons.1 hx with rfl | hx
        · exact hlt
        · have := h1 x hx; omega
      · refine List.pairwise_cons.2 ⟨fun x hx => ?_, ih h2⟩
        rcases (putL_mem r n x).1 hx with rfl | hx
        · omega
        · exact h1 x hx
/-- All deals that edges name, rising. -/
def namedI (l : List Edge2) : List Int := l.foldl (fun d e => putL (putL d e.1) e.2) []
theorem namedI_snoc (l : List Edge2) (e : Edge2) : namedI (l ++ [e]) = putL (putL (namedI l) e.1) e.2 := by simp [namedI]
theorem rev_ind {P : List Edge2 → Prop} (h0 : P []) (h1 : ∀ l e, P l → P (l ++ [e])) (l : List Edge2) : P l := by
  have : ∀ n (l : List Edge2), l.length = n → P l := by
    intro n
    induction n with
    | zero => intro l hl; rw [List.length_eq_zero_iff.1 hl]; exact h0
    | succ n ih =>
      intro l hl
      have hne : l ≠ [] := fun e => by rw [e] at hl; simp at hl
      rw [← List.dropLast_concat_getLast hne]
      exact h1 _ _ (ih _ (by rw [List.length_dropLast, hl]; rfl))
  exact this _ l rfl
theorem namedI_mem (l : List Edge2) (x : Int) : x ∈ namedI l ↔ ∃ e ∈ l, x = e.1 ∨ x = e.2 := by
  refine rev_ind (P := fun l => x ∈ namedI l ↔ ∃ e ∈ l, x = e.1 ∨ x = e.2) (by simp [namedI]) (fun l e ih => ?_) l
  rw [namedI_snoc, putL_mem, putL_mem, ih]
  constructor
  · rintro (h | h | ⟨f, hf, h⟩)
    · exact ⟨e, by simp, .inr h⟩
    · exact ⟨e, by simp, .inl h⟩
    · exact ⟨f, List.mem_append_left _ hf, h⟩
  · rintro ⟨f, hf, h⟩
    rcases List.mem_append.1 hf with hf | hf
    · exact .inr (.inr ⟨f, hf, h⟩)
    · rw [List.mem_singleton.1 hf] at h
      rcases h with h | h
      · exact .inr (.inl h)
      · exact .inl h
theorem namedS_I (l : List Edge2) (t : Nat) : namedS l t = inB (namedI l) (t : Int) := by
  rw [Bool.eq_iff_iff, inB_iff, namedI_mem]
  unfold namedS
  rw [List.any_eq_true]
  constructor
  · rintro ⟨e, he, h⟩
    simp only [Bool.or_eq_true, beq_iff_eq] at h
    exact ⟨e, he, h.imp Eq.symm Eq.symm⟩
  · rintro ⟨e, he, h⟩
    exact ⟨e, he, by simp only [Bool.or_eq_true, beq_iff_eq]; exact h.imp Eq.symm Eq.symm⟩
/-- Those of a list that are not out yet. -/
def leftS (d out : List Int) : Set7 := fun t => inB d (t : Int) && !inB out (t : Int)
/-- May a deal be next? -/
def blockB (d out : List Int) (x : Int) (e : Edge2) : Bool := e.2 == x && (inB d e.1 && !inB out e.1)
def okD (d : List Int) (l : List Edge2) (out : List Int) (x : Int) : Bool := !inB out x && !l.any (blockB d out x)
theorem any_same {q r : Edge2 → Bool} : ∀ {l : List Edge2}, (∀ e ∈ l, q e = r e) → l.any q = l.any r := by
  intro l
  induction l with
  | nil => intro _; rfl
  | cons a t ih =>
    intro h
    rw [List.any_cons, List.any_cons, h a (List.mem_cons_self ..), ih fun e he => h e (List.mem_cons_of_mem _ he)]
theorem ok_free {l : List Edge2} (hr : Right l) (d out : List Int) (t : Nat) (ht : (t : Int) ∈ d) : okD d l out (t : Int) = freeB l (leftS d out) t := by
  unfold okD freeB
  have h1 : leftS d out t = !inB out (t : Int) := by unfold leftS; rw [inB_iff.2 ht]; rfl
  rw [h1]
  congr 2
  refine any_same fun e he => ?_
  have := hr e he
  unfold blockB holdB leftS
  rw [Int.toNat_of_nonneg (by omega)]
/-- The first of a list that may be next. -/
def firstD (d : List Int) (l : List Edge2) (out : List Int) (k : Nat) : Int := ((d.take k).find? (okD d l out)).getD 0
theorem firstD_zero (d : List Int) (l : List Edge2) (out : List Int) : firstD d l out 0 = 0 := by simp [firstD]
/-- One more of a rising list: only where there was none. -/
theorem firstD_succ {d : List Int} {l : List Edge2} {out : List Int} {k : Nat} {x : Int} (hk : d[k]? = some x) (hrise : d.Pairwise (· < ·)) (hpos : ∀ y ∈ d, 1 ≤ y) :
    firstD d l out (k + 1) = if okD d l out x = true ∧ (firstD d l out k = 0 ∨ x < firstD d l out k) then x else firstD d l out k := by
  have hlt := (List.getElem?_eq_some_iff.1 hk).1
  have hx : d[k] = x := (List.getElem?_eq_some_iff.1 hk).2
  unfold firstD
  rw [List.take_succ_eq_append_getElem hlt, hx, List.find?_append]
  cases hf : (d.take k).find? (okD d l out) with
  | none =>
    by_cases ho : okD d l out x = true
    · simp [ho]
    · simp [ho]
  | some y =>
    have hy := List.mem_of_find?_eq_some hf
    have hyd : y ∈ d := List.mem_of_mem_take hy
    have h1 := hpos y hyd
    have hyx : y < x := by
      have h2 : d = d.take k ++ x :: d.drop (k + 1) := by
        rw [← hx, ← List.drop_eq_getElem_cons hlt, List.take_append_drop]
      rw [h2] at hrise
      exact (List.pairwise_append.1 hrise).2.2 y hy x (List.mem_cons_self ..)
    have hn : ¬ (okD d l out x = true ∧ (y = 0 ∨ x < y)) := fun ⟨_, h⟩ => by omega
    simp only [Option.some_or, Option.getD_some]
    rw [if_neg hn]
theorem leftS_next {d out : List Int} {t : Nat} : leftS d (out ++ [(t : Int)]) = setS (leftS d out) t false := by
  funext k
  unfold leftS setS
  by_cases h : k = t
  · subst h
    rw [if_pos rfl, (inB_iff (l := out ++ [(k : Int)])).2 (by simp)]
    simp
  · rw [if_neg h]
    congr 2
    rw [Bool.eq_iff_iff, inB_iff, inB_iff, List.mem_append, List.mem_singleton]
    constructor
    · rintro (h1 | h1)
      · exact h1
      · omega
    · exact .inl
theorem setOf_iff : ∀ (r : List Nat) (k : Nat), setOf r k = true ↔ k ∈ r := by
  intro r
  induction r with
  | nil => intro k; simp [setOf]
  | cons t r ih =>
    intro k
    show setS (setOf r) t true k = true ↔ k ∈ t :: r
    unfold setS
    by_cases h : k = t
    · simp [h]
    · rw [if_neg h, ih]; simp [h]
theorem any_cnt {s : Set7} (h : anyS s = false) : cntS s = 0 := by
  have hz : ∀ k, k < 7 → s k = false := fun k hk => by
    have := List.any_eq_false.1 h k (List.mem_range.2 hk)
    simpa using this
  unfold cntS
  rw [hz 0 (by omega), hz 1 (by omega), hz 2 (by omega), hz 3 (by omega), hz 4 (by omega), hz 5 (by omega), hz 6 (by omega)]
  rfl
end Go.Proofs.YtmjjiehnjghndaaDoor

namespace Go.Proofs.YtmjjiehnjghndaaDoor
open Go.RowKit

/-- The ops lie in memory from an address on, three numbers each. -/
def OpsAt (w : World) (b off : Nat) (l : List Op3) : Prop :=
  ∀ i, i < l.length → w.cell? ⟨b, off + i * 3, none⟩ = some (.int .i64 (l.getD i (0, 0, 0)).1) ∧ w.cell? ⟨b, off + i * 3 + 1, none⟩ = some (.int .i64 (l.getD i (0, 0, 0)).2.1) ∧ w.cell? ⟨b, off + i * 3 + 2, none⟩ = some (.int .i64 (l.getD i (0, 0, 0)).2.2)

theorem ret_bool {x y : Bool} (h : x = y) : Ending.returned (.bool x) = .returned (.bool y) := by rw [h]

theorem ends_any (a : Int) (w : World) : Calls Tryd.prog 62 #[.int .i64 a] w fun e w' => e = .returned (.bool (endsB a)) ∧ w' = w := by
  go_enter Tryd.func62, Tryd.ntmps62
  go_wp2
  all_goals go_ret
  all_goals exact ⟨by simp_all [endsB], rfl⟩

set_option maxHeartbeats 1000000 in
theorem isOp_any (t a i : Int) (w : World) : Calls Tryd.prog 61 #[.agg #[.int .i64 t, .int .i64 a, .int .i64 i]] w fun e w' => e = .returned (.bool (isOpB (t, a, i))) ∧ w' = w.alloc (.cells #[.int .i64 t, .int .i64 a, .int .i64 i] 57) := by
  go_enter Tryd.func61, Tryd.ntmps61
  go_wp2_with (go_at_call 62; refine (ends_any _ _).mono ?_; rintro e w' ⟨rfl, rfl⟩)
  all_goals go_ret
  all_goals refine ⟨ret_bool ?_, rfl⟩
  all_goals (first | (simp_all [isOpB]; done) | (simp_all [isOpB]; omega))

/-- An error as the program makes it: nil, or an Errno. -/
def errV (n : Int) : Value := if n = 0 then .nilIface else .iface 50 (.int .i64 n)
theorem errV_zero : errV 0 = .nilIface := rfl
theorem errV_ne {n : Int} (h : n ≠ 0) : errV n = .iface 50 (.int .i64 n) := if_neg h
theorem ret_chk {x y : Int} {v u : Value} (h : x = y) (h2 : v = u) : Ending.returned (.tuple #[.int .i64 x, v]) = .returned (.tuple #[.int .i64 y, u]) := by rw [h, h2]

/-- The array of those that have ended. -/
def EndedAt (w : World) (B : Nat) (l : List Op3) : Prop := ∀ j, j < 7 → w.cell? ⟨B, j, none⟩ = some (.bool (endedIn l (j : Nat))) ∧ w.frozen? ⟨B, j, none⟩ = false
theorem EndedAt.lt {w : World} {B : Nat} {l : List Op3} (h : EndedAt w B l) : B < w.heap.size := by
  rcases Nat.lt_or_ge B w.heap.size with h0 | h0
  · exact h0
  · have := (h 0 (by omega)).1
    simp [World.cell?, Array.getElem?_eq_none h0] at this
theorem ended_start (l : List Op3) (w : World) : EndedAt (w.alloc (.cells #[.bool false, .bool false, .bool false, .bool false, .bool false, .bool false, .bool false] 95)) w.heap.size (List.take 0 l) := by
  intro j hj
  match j, hj with
  | 0, _ => exact ⟨by simp [endedIn], by simp⟩
  | 1, _ => exact ⟨by simp [endedIn], by simp⟩
  | 2, _ => exact ⟨by simp [endedIn], by simp⟩
  | 3, _ => exact ⟨by simp [endedIn], by simp⟩
  | 4, _ => exact ⟨by simp [endedIn], by simp⟩
  | 5, _ => exact ⟨by simp [endedIn], by simp⟩
  | 6, _ => exact ⟨by simp [endedIn], by simp⟩

theorem endedIn_snoc (l : List Op3) (o : Op3) (t : Int) : endedIn (l ++ [o]) t = (endedIn l t || (o.1 == t && endsB o.2.1)) := by simp [endedIn]
theorem EndedAt.step {w : World} {B : Nat} {l : List Op3} {t a i : Int} (h : EndedAt w B l) (h1 : 1 ≤ t) (h6 : t ≤ 6) (hen : endedIn l t = false) (o1 o2 : Obj) :
    EndedAt (((w.setCell ⟨B, t.toNat, none⟩ (.bool (endsB a))).alloc o1).alloc o2).drew B (l ++ [(t, a, i)]) := by
  have hlt := h.lt
  intro j hj
  have hz : (w.setCell ⟨B, t.toNat, none⟩ (.bool (endsB a))).heap.size = w.heap.size := by simp
  obtain ⟨hc, hf⟩ := h j hj
  obtain ⟨hct, _⟩ := h t.toNat (by omega)
  constructor
  · rw [World.cell?_drew, World.cell?_alloc_lt _ _ ⟨B, j, none⟩ (by simp; omega), World.cell?_alloc_lt _ _ ⟨B, j, none⟩ (by simp; omega), endedIn_snoc]
    by_cases hjt : j = t.toNat
    · subst hjt
      rw [World.cell?_setCell_same _ _ _ hct, show ((t.toNat : Nat) : Int) = t by omega, hen]; simp
    · rw [World.cell?_setCell_other _ _ _ _ (by intro he; injection he with _ he2 _; exact hjt he2.symm), hc]
      have : (t == (j : Int)) = false := by simp; omega
      simp [this]
  · rw [World.frozen?_drew, World.frozen?_alloc_old _ _ ⟨B, j, none⟩ (by simp; omega), World.frozen?_alloc_old _ _ ⟨B, j, none⟩ (by simp; omega)]
    simpa using hf
theorem isOp_tx {o : Op3} (h : isOpB o = true) : 1 ≤ o.1 ∧ o.1 ≤ 6 := by
  simp [isOpB] at h; omega
theorem chk_at1 {l : List Op3} {k : Nat} {o : Op3} (hk : k < l.length) (h : chkFrom (l.take k) (l.drop k) = chk l) (hd : l.drop k = o :: l.drop (k + 1)) (ho : isOpB o = false) : chk l = (k, 1) := by
  rw [← h, hd, chkFrom_bad1 _ _ ho, List.length_take, Nat.min_eq_left (by omega)]
theorem chk_at2 {l : List Op3} {k : Nat} {o : Op3} (hk : k < l.length) (h : chkFrom (l.take k) (l.drop k) = chk l) (hd : l.drop k = o :: l.drop (k + 1)) (ho : isOpB o = true) (he : endedIn (l.take k) o.1 = true) : chk l = (k, 6) := by
  rw [← h, hd, chkFrom_bad2 _ ho he, List.length_take, Nat.min_eq_left (by omega)]
theorem chk_step {l : List Op3} {k : Nat} {o : Op3} (h : chkFrom (l.take k) (l.drop k) = chk l) (hd : l.drop k = o :: l.drop (k + 1)) (ht : l.take (k + 1) = l.take k ++ [o]) (ho : isOpB o = true) (he : endedIn (l.take k) o.1 = false) : chkFrom (l.take (k + 1)) (l.drop (k + 1)) = chk l := by
  rw [← h, hd, chkFrom_go _ ho he, ht]
theorem chk_end {l : List Op3} {k : Nat} (hk : l.length ≤ k) (h : chkFrom (l.take k) (l.drop k) = chk l) : chk l = (0, 0) := by
  rw [← h, List.drop_of_length_le hk]; rfl

set_option maxHeartbeats 2000000 in
theorem check_any (l : List Op3) (ad : Option Addr) (b off cap : Nat) (w : World) (ha : 0 < l.length → ad = some ⟨b, off, none⟩) (hbB : b < w.heap.size ∨ l = []) (hops : OpsAt w b off l) :
    Calls Tryd.prog 43 #[.slice ad l.length cap] w fun e w' => e = .returned (.tuple #[.int .i64 (chk l).1, errV (chk l).2]) ∧ Below w.heap.size w w' := by
  by_cases h40 : 40 < l.length
  · have hc : chk l = (0, 4) := by unfold chk; rw [if_pos h40]
    have HC : Hid (chk l = (0, 4)) := hc
    clear hc hops ha hbB
    go_enter Tryd.func43, Tryd.ntmps43
    go_wp2
    go_ret2
    exact ⟨ret_chk (by rw [HC.out]; rfl) (by rw [HC.out]; rfl), Below.refl _ _⟩
  · have HC : Hid (chk l = chkFrom [] l) := chk_short l (by omega)
    go_enter Tryd.func43, Tryd.ntmps43
    go_wp2
    go_loopw [13] (fun v13 wr => ∃ k : Nat, k ≤ l.length ∧ v13 = .int .i64 k ∧ chkFrom (l.take k) (l.drop k) = chk l ∧ EndedAt wr w.heap.size (l.take k) ∧ Below w.heap.size w wr) (fun v13 _ => l.length - (intOf v13).toNat)
    case atStart => exact ⟨0, Nat.zero_le _, rfl, by rw [HC.out]; simp, ended_start l w, (Below.refl _ _).alloc (Nat.le_refl _) _⟩
    case round =>
      obtain ⟨k, hk, rfl, hck, hend, hbel⟩ := hrel
      have HK : Hid (chkFrom (l.take k) (l.drop k) = chk l) := hck
      clear hck
      by_cases hlt : k < l.length
      · have hsz : w.heap.size < wr.heap.size := hend.lt
        obtain rfl := ha (by omega)
        obtain ⟨c0, c1, c2⟩ := hops k hlt
        have hb1 : b < w.heap.size := by
          rcases hbB with h | h
          · exact h
          · subst h; simp at hlt
        rw [← hbel.cell (p := ⟨b, off + k * 3, none⟩) hb1] at c0
        rw [← hbel.cell (p := ⟨b, off + k * 3 + 1, none⟩) hb1] at c1
        rw [← hbel.cell (p := ⟨b, off + k * 3 + 2, none⟩) hb1] at c2
        obtain ⟨⟨t, a, i⟩, ho⟩ : ∃ o : Op3, l.getD k (0, 0, 0) = o := ⟨_, rfl⟩
        rw [ho] at c0 c1 c2
        have hdr : l.drop k = (t, a, i) :: l.drop (k + 1) := by
          rw [← ho]; simp [List.getD, List.getElem?_eq_getElem hlt]
        have HD : Hid (l.drop k = (t, a, i) :: l.drop (k + 1)) := hdr
        have HT : Hid (l.take (k + 1) = l.take k ++ [(t, a, i)]) := by
          show l.take (k + 1) = l.take k ++ [(t, a, i)]
          rw [List.take_succ_eq_append_getElem hlt, ← ho]; simp [List.getD, List.getElem?_eq_getElem hlt]
        clear ho hdr hops ha hbB
        simp only at c0 c1 c2
        cases hop : isOpB (t, a, i) with
        | false =>
          go_wp2_with (first | (go_at_call 61; refine (isOp_any _ _ _ _).mono ?_; rintro e w' ⟨rfl, rfl⟩))
          go_ret2
          have hres := chk_at1 hlt HK.out HD.out hop
          exact ⟨ret_chk (by rw [hres]) (by rw [hres]; rfl), (((hbel.alloc (by omega) _).alloc (by simp; omega) _))⟩
        | true =>
          have htb := isOp_tx hop
          obtain ⟨ht1, ht6⟩ := htb
          have hce := hend t.toNat (by omega)
          rw [show ((t.toNat : Nat) : Int) = t by omega] at hce
          obtain ⟨hc1, hc2⟩ := hce
          cases hen : endedIn (l.take k) t with
          | true =>
            rw [hen] at hc1
            go_wp2_with (first | (go_at_call 61; refine (isOp_any _ _ _ _).mono ?_; rintro e w' ⟨rfl, rfl⟩))
            go_ret2
            have hres := chk_at2 hlt HK.out HD.out hop hen
            exact ⟨ret_chk (by rw [hres]) (by rw [hres]; rfl), (((hbel.alloc (by omega) _).alloc (by simp; omega) _))⟩
          | false =>
            rw [hen] at hc1
            go_wp2_with (first | (go_at_call 61; refine (isOp_any _ _ _ _).mono ?_; rintro e w' ⟨rfl, rfl⟩))
            go_region_with (go_at_call 62; refine (ends_any _ _).mono ?_; rintro e w' ⟨rfl, rfl⟩)
            all_goals
              go_wp2
              go_roundw
              case rel => exact ⟨k + 1, by omega, by go_num, chk_step HK.out HD.out HT.out hop hen, by rw [HT.out]; exact hend.step ht1 ht6 hen _ _, ((((hbel.setCell (by simp) _).alloc (by simp; omega) _).alloc (by simp; omega) _)).drew⟩
              case measure => simp [intOf]; omega
      · go_wp2
        go_ret2
        have hres := chk_end (by omega) HK.out
        exact ⟨ret_chk (by rw [hres]; rfl) (by rw [hres]; rfl), hbel⟩
end Go.Proofs.YtmjjiehnjghndaaDoor
