/-
  PROVED HERE: history.isOp, history.ends and history.Check answer as the plain functions of the text Plain say, whatever the list of ops; old memory stays as it was.
  Conditions: none.
  PROVED HERE: how a list of ops lies in memory, as a slice value that came in or that the program made itself; history.Check over such a value.
  Conditions: none.
  (Of these, what the claim wants: the rest was left out.)
-/
import Derived.Test.YtmjjiehnjghndaaProg
import Derived.Test.YtmjjiehnjghndaaMgab
import Derived.WalkKit
import Derived.WalkSpells
import Derived.Handy
import Derived.Deep.RegionWith
namespace Go.Proofs.Ytmjjiehnjghndaa
open Go.RowKit

/-- The ops lie in memory from an address on, three numbers each. -/
def OpsAt (w : World) (b off : Nat) (l : List Op3) : Prop :=
  ∀ i, i < l.length → w.cell? ⟨b, off + i * 3, none⟩ = some (.int .i64 (l.getD i (0, 0, 0)).1) ∧ w.cell? ⟨b, off + i * 3 + 1, none⟩ = some (.int .i64 (l.getD i (0, 0, 0)).2.1) ∧ w.cell? ⟨b, off + i * 3 + 2, none⟩ = some (.int .i64 (l.getD i (0, 0, 0)).2.2)

theorem ret_bool {x y : Bool} (h : x = y) : Ending.returned (.bool x) = .returned (.bool y) := by rw [h]

theorem ends_any (a : Int) (w : World) : Calls Try.prog 40 #[.int .i64 a] w fun e w' => e = .returned (.bool (endsB a)) ∧ w' = w := by
  go_enter Try.func40, Try.ntmps40
  go_wp2
  all_goals go_ret
  all_goals exact ⟨by simp_all [endsB], rfl⟩

set_option maxHeartbeats 1000000 in
theorem isOp_any (t a i : Int) (w : World) : Calls Try.prog 39 #[.agg #[.int .i64 t, .int .i64 a, .int .i64 i]] w fun e w' => e = .returned (.bool (isOpB (t, a, i))) ∧ w' = w.alloc (.cells #[.int .i64 t, .int .i64 a, .int .i64 i] 24) := by
  go_enter Try.func39, Try.ntmps39
  go_wp2_with (go_at_call 40; refine (ends_any _ _).mono ?_; rintro e w' ⟨rfl, rfl⟩)
  all_goals go_ret
  all_goals refine ⟨ret_bool ?_, rfl⟩
  all_goals (first | (simp_all [isOpB]; done) | (simp_all [isOpB]; omega))

/-- An error as the program makes it: nil, or an Errno. -/
def errV (n : Int) : Value := if n = 0 then .nilIface else .iface 46 (.int .i64 n)
theorem errV_zero : errV 0 = .nilIface := rfl
theorem errV_ne {n : Int} (h : n ≠ 0) : errV n = .iface 46 (.int .i64 n) := if_neg h
theorem ret_chk {x y : Int} {v u : Value} (h : x = y) (h2 : v = u) : Ending.returned (.tuple #[.int .i64 x, v]) = .returned (.tuple #[.int .i64 y, u]) := by rw [h, h2]

/-- The array of those that have ended. -/
def EndedAt (w : World) (B : Nat) (l : List Op3) : Prop := ∀ j, j < 7 → w.cell? ⟨B, j, none⟩ = some (.bool (endedIn l (j : Nat))) ∧ w.frozen? ⟨B, j, none⟩ = false
theorem EndedAt.lt {w : World} {B : Nat} {l : List Op3} (h : EndedAt w B l) : B < w.heap.size := by
  rcases Nat.lt_or_ge B w.heap.size with h0 | h0
  · exact h0
  · have := (h 0 (by omega)).1
    simp [World.cell?, Array.getElem?_eq_none h0] at this
theorem ended_start (l : List Op3) (w : World) : EndedAt (w.alloc (.cells #[.bool false, .bool false, .bool false, .bool false, .bool false, .bool false, .bool false] 63)) w.heap.size (List.take 0 l) := by
  intro j hj
  match j, hj with
  | 0, _ => exact ⟨by simp [endedIn], by simp⟩
  | 1, _ => exact ⟨by simp [endedIn], by simp⟩
  | 2, _ => exact ⟨by simp [endedIn], by simp⟩
  | 3, _ => exact ⟨by simp [endedIn], by simp⟩
  | 4, _ => exact ⟨by simp [endedIn], by simp⟩
  | 5, _ => exact ⟨by simp [endedIn], by simp⟩
  | 6, _ => exact ⟨by simp [endedIn], by simp⟩

theorem endedIn_snoc (l : List Op3) (o : Op3) (t : Int) : endedIn (l ++ [o]) t = (endedIn l t || (o.1 == t && endsB o.2.1)) := by simp [endedIn]
theorem EndedAt.step {w : World} {B : Nat} {l : List Op3} {t a i : Int} (h : EndedAt w B l) (h1 : 1 ≤ t) (h6 : t ≤ 6) (hen : endedIn l t = false) (o1 o2 : Obj) :
    EndedAt (((w.setCell ⟨B, t.toNat, none⟩ (.bool (endsB a))).alloc o1).alloc o2).drew B (l ++ [(t, a, i)]) := by
  have hlt := h.lt
  intro j hj
  have hz : (w.setCell ⟨B, t.toNat, none⟩ (.bool (endsB a))).heap.size = w.heap.size := by simp
  obtain ⟨hc, hf⟩ := h j hj
  obtain ⟨hct, _⟩ := h t.toNat (by omega)
  constructor
  · rw [World.cell?_drew, World.cell?_alloc_lt _ _ ⟨B, j, none⟩ (by simp; omega), World.cell?_alloc_lt _ _ ⟨B, j, none⟩ (by simp; omega), endedIn_snoc]
    by_cases hjt : j = t.toNat
    · subst hjt
      rw [World.cell?_setCell_same _ _ _ hct, show ((t.toNat : Nat) : Int) = t by omega, hen]; simp
    · rw [World.cell?_setCell_other _ _ _ _ (by intro he; injection he with _ he2 _; exact hjt he2.symm), hc]
      have : (t == (j : Int)) = false := by simp; omega
      simp [this]
  · rw [World.frozen?_drew, World.frozen?_alloc_old _ _ ⟨B, j, none⟩ (by simp; omega), World.frozen?_alloc_old _ _ ⟨B, j, none⟩ (by simp; omega)]
    simpa using hf
theorem isOp_tx {o : Op3} (h : isOpB o = true) : 1 ≤ o.1 ∧ o.1 ≤ 6 := by
  simp [isOpB] at h; omega
theorem chk_at1 {l : List Op3} {k : Nat} {o : Op3} (hk : k < l.length) (h : chkFrom (l.take k) (l.drop k) = chk l) (hd : l.drop k = o :: l.drop (k + 1)) (ho : isOpB o = false) : chk l = (k, 1) := by
  rw [← h, hd, chkFrom_bad1 _ _ ho, List.length_take, Nat.min_eq_left (by omega)]
theorem chk_at2 {l : List Op3} {k : Nat} {o : Op3} (hk : k < l.length) (h : chkFrom (l.take k) (l.drop k) = chk l) (hd : l.drop k = o :: l.drop (k + 1)) (ho : isOpB o = true) (he : endedIn (l.take k) o.1 = true) : chk l = (k, 6) := by
  rw [← h, hd, chkFrom_bad2 _ ho he, List.length_take, Nat.min_eq_left (by omega)]
theorem chk_step {l : List Op3} {k : Nat} {o : Op3} (h : chkFrom (l.take k) (l.drop k) = chk l) (hd : l.drop k = o :: l.drop (k + 1)) (ht : l.take (k + 1) = l.take k ++ [o]) (ho : isOpB o = true) (he : endedIn (l.take k) o.1 = false) : chkFrom (l.take (k + 1)) (l.drop (k + 1)) = chk l := by
  rw [← h, hd, chkFrom_go _ ho he, ht]
theorem chk_end {l : List Op3} {k : Nat} (hk : l.length ≤ k) (h : chkFrom (l.take k) (l.drop k) = chk l) : chk l = (0, 0) := by
  rw [← h, List.drop_of_length_le hk]; rfl

set_option maxHeartbeats 2000000 in
theorem check_any (l : List Op3) (ad : Option Addr) (b off cap : Nat) (w : World) (ha : 0 < l.length → ad = some ⟨b, off, none⟩) (hbB : b < w.heap.size ∨ l = []) (hops : OpsAt w b off l) :
    Calls Try.prog 20 #[.slice ad l.length cap] w fun e w' => e = .returned (.tuple #[.int .i64 (chk l).1, errV (chk l).2]) ∧ Below w.heap.size w w' := by
  by_cases h40 : 40 < l.length
  · have hc : chk l = (0, 4) := by unfold chk; rw [if_pos h40]
    have HC : Hid (chk l = (0, 4)) := hc
    clear hc hops ha hbB
    go_enter Try.func20, Try.ntmps20
    go_wp2
    go_ret2
    exact ⟨ret_chk (by rw [HC.out]; rfl) (by rw [HC.out]; rfl), Below.refl _ _⟩
  · have HC : Hid (chk l = chkFrom [] l) := chk_short l (by omega)
    go_enter Try.func20, Try.ntmps20
    go_wp2
    go_loopw [13] (fun v13 wr => ∃ k : Nat, k ≤ l.length ∧ v13 = .int .i64 k ∧ chkFrom (l.take k) (l.drop k) = chk l ∧ EndedAt wr w.heap.size (l.take k) ∧ Below w.heap.size w wr) (fun v13 _ => l.length - (intOf v13).toNat)
    case atStart => exact ⟨0, Nat.zero_le _, rfl, by rw [HC.out]; simp, ended_start l w, (Below.refl _ _).alloc (Nat.le_refl _) _⟩
    case round =>
      obtain ⟨k, hk, rfl, hck, hend, hbel⟩ := hrel
      have HK : Hid (chkFrom (l.take k) (l.drop k) = chk l) := hck
      clear hck
      by_cases hlt : k < l.length
      · have hsz : w.heap.size < wr.heap.size := hend.lt
        obtain rfl := ha (by omega)
        obtain ⟨c0, c1, c2⟩ := hops k hlt
        have hb1 : b < w.heap.size := by
          rcases hbB with h | h
          · exact h
          · subst h; simp at hlt
        rw [← hbel.cell (p := ⟨b, off + k * 3, none⟩) hb1] at c0
        rw [← hbel.cell (p := ⟨b, off + k * 3 + 1, none⟩) hb1] at c1
        rw [← hbel.cell (p := ⟨b, off + k * 3 + 2, none⟩) hb1] at c2
        obtain ⟨⟨t, a, i⟩, ho⟩ : ∃ o : Op3, l.getD k (0, 0, 0) = o := ⟨_, rfl⟩
        rw [ho] at c0 c1 c2
        have hdr : l.drop k = (t, a, i) :: l.drop (k + 1) := by
          rw [← ho]; simp [List.getD, List.getElem?_eq_getElem hlt]
        have HD : Hid (l.drop k = (t, a, i) :: l.drop (k + 1)) := hdr
        have HT : Hid (l.take (k + 1) = l.take k ++ [(t, a, i)]) := by
          show l.take (k + 1) = l.take k ++ [(t, a, i)]
          rw [List.take_succ_eq_append_getElem hlt, ← ho]; simp [List.getD, List.getElem?_eq_getElem hlt]
        clear ho hdr hops ha hbB
        simp only at c0 c1 c2
        cases hop : isOpB (t, a, i) with
        | false =>
          go_wp2_with (first | (go_at_call 39; refine (isOp_any _ _ _ _).mono ?_; rintro e w' ⟨rfl, rfl⟩))
          go_ret2
          have hres := chk_at1 hlt HK.out HD.out hop
          exact ⟨ret_chk (by rw [hres]) (by rw [hres]; rfl), (((hbel.alloc (by omega) _).alloc (by simp; omega) _))⟩
        | true =>
          have htb := isOp_tx hop
          obtain ⟨ht1, ht6⟩ := htb
          have hce := hend t.toNat (by omega)
          rw [show ((t.toNat : Nat) : Int) = t by omega] at hce
          obtain ⟨hc1, hc2⟩ := hce
          cases hen : endedIn (l.take k) t with
          | true =>
            rw [hen] at hc1
            go_wp2_with (first | (go_at_call 39; refine (isOp_any _ _ _ _).mono ?_; rintro e w' ⟨rfl, rfl⟩))
            go_ret2
            have hres := chk_at2 hlt HK.out HD.out hop hen
            exact ⟨ret_chk (by rw [hres]) (by rw [hres]; rfl), (((hbel.alloc (by omega) _).alloc (by simp; omega) _))⟩
          | false =>
            rw [hen] at hc1
            go_wp2_with (first | (go_at_call 39; refine (isOp_any _ _ _ _).mono ?_; rintro e w' ⟨rfl, rfl⟩))
            go_region_with (go_at_call 40; refine (ends_any _ _).mono ?_; rintro e w' ⟨rfl, rfl⟩)
            all_goals
              go_wp2
              go_roundw
              case rel => exact ⟨k + 1, by omega, by go_num, chk_step HK.out HD.out HT.out hop hen, by rw [HT.out]; exact hend.step ht1 ht6 hen _ _, ((((hbel.setCell (by simp) _).alloc (by simp; omega) _).alloc (by simp; omega) _)).drew⟩
              case measure => simp [intOf]; omega
      · go_wp2
        go_ret2
        have hres := chk_end (by omega) HK.out
        exact ⟨ret_chk (by rw [hres]; rfl) (by rw [hres]; rfl), hbel⟩
end Go.Proofs.Ytmjjiehnjghndaa

namespace Go.Proofs.Ytmjjiehnjghndaa
open Go.RowKit

/-- The cells of ops. -/
def flat : List Op3 → List Value
  | [] => []
  | o :: r => .int .i64 o.1 :: .int .i64 o.2.1 :: .int .i64 o.2.2 :: flat r
theorem flat_length (l : List Op3) : (flat l).length = l.length * 3 := by
  induction l with
  | nil => rfl
  | cons o r ih => simp [flat, ih]; omega
theorem flat_append (l m : List Op3) : flat (l ++ m) = flat l ++ flat m := by
  induction l with
  | nil => rfl
  | cons o r ih => simp [flat, ih]
theorem flat_one (l : List Op3) : ∀ u ∈ flat l, u.oneCell' = true := by
  induction l with
  | nil => intro u hu; cases hu
  | cons o r ih =>
    intro u hu
    simp only [flat, List.mem_cons] at hu
    rcases hu with rfl | rfl | rfl | hu
    · rfl
    · rfl
    · rfl
    · exact ih u hu
theorem flat_at (l : List Op3) : ∀ i, i < l.length → (flat l)[i * 3]? = some (.int .i64 (l.getD i (0, 0, 0)).1) ∧ (flat l)[i * 3 + 1]? = some (.int .i64 (l.getD i (0, 0, 0)).2.1) ∧ (flat l)[i * 3 + 2]? = some (.int .i64 (l.getD i (0, 0, 0)).2.2) := by
  induction l with
  | nil => intro i hi; cases hi
  | cons o r ih =>
    intro i hi
    cases i with
    | zero => exact ⟨rfl, rfl, rfl⟩
    | succ i =>
      have := ih i (by simpa using hi)
      rw [show (i + 1) * 3 = i * 3 + 3 by omega]
      simpa [flat] using this
/-- From cells to ops, and back. -/
theorem opsAt_of {w : World} {b off : Nat} {l : List Op3} (h : ∀ j u, (flat l)[j]? = some u → w.cell? ⟨b, off + j, none⟩ = some u) : OpsAt w b off l := by
  intro i hi
  obtain ⟨h0, h1, h2⟩ := flat_at l i hi
  exact ⟨h _ _ h0, by rw [Nat.add_assoc]; exact h _ _ h1, by rw [Nat.add_assoc]; exact h _ _ h2⟩
theorem OpsAt.flat {w : World} {b off : Nat} {l : List Op3} (h : OpsAt w b off l) : ∀ j u, (flat l)[j]? = some u → w.cell? ⟨b, off + j, none⟩ = some u := by
  intro j u hj
  have hlt : j < l.length * 3 := by
    rw [← flat_length]
    exact (List.getElem?_eq_some_iff.1 hj).1
  obtain ⟨c0, c1, c2⟩ := h (j / 3) (by omega)
  obtain ⟨f0, f1, f2⟩ := flat_at l (j / 3) (by omega)
  rcases (show j = j / 3 * 3 ∨ j = j / 3 * 3 + 1 ∨ j = j / 3 * 3 + 2 by omega) with e | e | e
  · rw [← e] at c0 f0; rw [f0] at hj; rw [c0, ← hj]
  · rw [Nat.add_assoc, ← e] at c1; rw [← e] at f1; rw [f1] at hj; rw [c1, ← hj]
  · rw [Nat.add_assoc, ← e] at c2; rw [← e] at f2; rw [f2] at hj; rw [c2, ← hj]
theorem OpsAt.below {w w1 : World} {b off B : Nat} {l : List Op3} (h : OpsAt w b off l) (hb : Below B w w1) (hB : b < B ∨ l = []) : OpsAt w1 b off l := by
  intro i hi
  have hB' : b < B := by
    rcases hB with h | h
    · exact h
    · subst h; cases hi
  rw [hb.cell (p := ⟨b, off + i * 3, none⟩) hB', hb.cell (p := ⟨b, off + i * 3 + 1, none⟩) hB', hb.cell (p := ⟨b, off + i * 3 + 2, none⟩) hB']
  exact h i hi


theorem infoOp : (Try.prog.info? 24).map (fun i => (i.zero, i.size, i.bytes)) = some (some (.agg #[.int .i64 0, .int .i64 0, .int .i64 0]), 3, 24) := by kernel_rfl

/-- A slice value that holds a list of ops. -/
def IsOps (w : World) (v : Value) (l : List Op3) : Prop :=
  ∃ (ad : Option Addr) (b off cap : Nat), v = .slice ad l.length cap ∧ (0 < l.length → ad = some ⟨b, off, none⟩) ∧ (ad = none → l.length = 0 ∧ cap = 0) ∧ (b < w.heap.size ∨ l = []) ∧ OpsAt w b off l
theorem IsOps.below {w w1 : World} {B : Nat} {v : Value} {l : List Op3} (h : IsOps w v l) (hb : Below B w w1) (hB : w.heap.size ≤ B) : IsOps w1 v l := by
  obtain ⟨ad, b, off, cap, hv, ha, hn, hbB, hops⟩ := h
  have hs := hb.size
  refine ⟨ad, b, off, cap, hv, ha, hn, ?_, hops.below hb ?_⟩
  · rcases hbB with h | h
    · exact .inl (by omega)
    · exact .inr h
  · rcases hbB with h | h
    · exact .inl (by omega)
    · exact .inr h
theorem isOps_nil (w : World) : IsOps w (.slice none 0 0) [] := ⟨none, 0, 0, 0, rfl, fun h => absurd h (by simp), fun _ => ⟨rfl, rfl⟩, .inr rfl, fun i hi => by simp at hi⟩
theorem isOps_own {w : World} {base e n : Nat} {v : Value} {l : List Op3} (h : w.ownsRow base e 3 v n (flat l)) (hl : l.length = n) : IsOps w v l := by
  have h' := h
  obtain ⟨_, ⟨hv, hd⟩ | ⟨g, cap, cur, hv, hb, hg, hn, hm, hsz, htk⟩⟩ := h'
  · have : l = [] := List.length_eq_zero_iff.1 (by omega)
    subst this
    rw [hv]
    exact isOps_nil w
  · refine ⟨some ⟨g, 0, none⟩, g, 0, cap, by rw [hl]; exact hv, fun _ => rfl, fun h => (by simp at h), .inl (h.lt g (by rw [hv]; rfl)).2, opsAt_of fun j u hj => ?_⟩
    have := h.cells (g := g) (by rw [hv]; rfl) j u hj
    rw [Addr.add_lit] at this
    exact this
theorem check_v (l : List Op3) (v : Value) (w : World) (h : IsOps w v l) :
    Calls Try.prog 20 #[v] w fun e w' => e = .returned (.tuple #[.int .i64 (chk l).1, errV (chk l).2]) ∧ Below w.heap.size w w' := by
  obtain ⟨ad, b, off, cap, rfl, ha, _, hbB, hops⟩ := h
  exact check_any l ad b off cap w ha hbB hops
theorem check_ok (l : List Op3) (v : Value) (w : World) (h : IsOps w v l) (hc : (chk l).2 = 0) :
    Calls Try.prog 20 #[v] w fun e w' => e = .returned (.tuple #[.int .i64 (chk l).1, .nilIface]) ∧ Below w.heap.size w w' := by
  refine (check_v l v w h).mono ?_
  rintro e w' ⟨he, hb⟩
  rw [hc] at he
  exact ⟨he, hb⟩
/-- One op just built lies there. -/
theorem one_at (w : World) (t a i : Int) : ∀ j u, (flat [(t, a, i)])[j]? = some u → (w.alloc (.cells #[.int .i64 t, .int .i64 a, .int .i64 i] 24)).cell? ((⟨w.heap.size, 0, none⟩ : Addr).add j) = some u := by
  intro j u hj
  match j, hj with
  | 0, hj => simp [flat] at hj; subst hj; simp [Addr.add]
  | 1, hj => simp [flat] at hj; subst hj; simp [Addr.add]
  | 2, hj => simp [flat] at hj; subst hj; simp [Addr.add]
  | k + 3, hj => simp [flat] at hj
end Go.Proofs.Ytmjjiehnjghndaa
