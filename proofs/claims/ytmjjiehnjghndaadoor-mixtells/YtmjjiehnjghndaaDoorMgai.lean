/-
  PROVED HERE: how a list of ops lies in memory, as a slice value that came in or that the program made itself; history.Check over such a value.
  Conditions: none.
  (Of these, what the claim wants: the rest was left out.)
  PROVED HERE: history.keep gives those ops of a list that a closure says yes to, in order, in new memory: for the two closures that the program hands it (the ops of a deal; the ops of the deals that commit). Old memory stays as it was.
  Conditions: none.
  (Of these, what the claim wants: the rest was left out.)
-/
import Derived.Test.YtmjjiehnjghndaaDoorMgah
namespace Go.Proofs.YtmjjiehnjghndaaDoor
open Go.RowKit

/-- The cells of ops. -/
def flat : List Op3 → List Value
  | [] => []
  | o :: r => .int .i64 o.1 :: .int .i64 o.2.1 :: .int .i64 o.2.2 :: flat r
theorem flat_length (l : List Op3) : (flat l).length = l.length * 3 := by
  induction l with
  | nil => rfl
  | cons o r ih => simp [flat, ih]; omega
theorem flat_append (l m : List Op3) : flat (l ++ m) = flat l ++ flat m := by
  induction l with
  | nil => rfl
  | cons o r ih => simp [flat, ih]
theorem flat_one (l : List Op3) : ∀ u ∈ flat l, u.oneCell' = true := by
  induction l with
  | nil => intro u hu; cases hu
  | cons o r ih =>
    intro u hu
    simp only [flat, List.mem_cons] at hu
    rcases hu with rfl | rfl | rfl | hu
    · rfl
    · rfl
    · rfl
    · exact ih u hu
theorem flat_at (l : List Op3) : ∀ i, i < l.length → (flat l)[i * 3]? = some (.int .i64 (l.getD i (0, 0, 0)).1) ∧ (flat l)[i * 3 + 1]? = some (.int .i64 (l.getD i (0, 0, 0)).2.1) ∧ (flat l)[i * 3 + 2]? = some (.int .i64 (l.getD i (0, 0, 0)).2.2) := by
  induction l with
  | nil => intro i hi; cases hi
  | cons o r ih =>
    intro i hi
    cases i with
    | zero => exact ⟨rfl, rfl, rfl⟩
    | succ i =>
      have := ih i (by simpa using hi)
      rw [show (i + 1) * 3 = i * 3 + 3 by omega]
      simpa [flat] using this
/-- From cells to ops, and back. -/
theorem opsAt_of {w : World} {b off : Nat} {l : List Op3} (h : ∀ j u, (flat l)[j]? = some u → w.cell? ⟨b, off + j, none⟩ = some u) : OpsAt w b off l := by
  intro i hi
  obtain ⟨h0, h1, h2⟩ := flat_at l i hi
  exact ⟨h _ _ h0, by rw [Nat.add_assoc]; exact h _ _ h1, by rw [Nat.add_assoc]; exact h _ _ h2⟩
theorem OpsAt.flat {w : World} {b off : Nat} {l : List Op3} (h : OpsAt w b off l) : ∀ j u, (flat l)[j]? = some u → w.cell? ⟨b, off + j, none⟩ = some u := by
  intro j u hj
  have hlt : j < l.length * 3 := by
    rw [← flat_length]
    exact (List.getElem?_eq_some_iff.1 hj).1
  obtain ⟨c0, c1, c2⟩ := h (j / 3) (by omega)
  obtain ⟨f0, f1, f2⟩ := flat_at l (j / 3) (by omega)
  rcases (show j = j / 3 * 3 ∨ j = j / 3 * 3 + 1 ∨ j = j / 3 * 3 + 2 by omega) with e | e | e
  · rw [← e] at c0 f0; rw [f0] at hj; rw [c0, ← hj]
  · rw [Nat.add_assoc, ← e] at c1; rw [← e] at f1; rw [f1] at hj; rw [c1, ← hj]
  · rw [Nat.add_assoc, ← e] at c2; rw [← e] at f2; rw [f2] at hj; rw [c2, ← hj]
theorem OpsAt.below {w w1 : World} {b off B : Nat} {l : List Op3} (h : OpsAt w b off l) (hb : Below B w w1) (hB : b < B ∨ l = []) : OpsAt w1 b off l := by
  intro i hi
  have hB' : b < B := by
    rcases hB with h | h
    · exact h
    · subst h; cases hi
  rw [hb.cell (p := ⟨b, off + i * 3, none⟩) hB', hb.cell (p := ⟨b, off + i * 3 + 1, none⟩) hB', hb.cell (p := ⟨b, off + i * 3 + 2, none⟩) hB']
  exact h i hi


theorem infoOp : (Tryd.prog.info? 57).map (fun i => (i.zero, i.size, i.bytes)) = some (some (.agg #[.int .i64 0, .int .i64 0, .int .i64 0]), 3, 24) := by kernel_rfl

/-- A slice value that holds a list of ops. -/
def IsOps (w : World) (v : Value) (l : List Op3) : Prop :=
  ∃ (ad : Option Addr) (b off cap : Nat), v = .slice ad l.length cap ∧ (0 < l.length → ad = some ⟨b, off, none⟩) ∧ (ad = none → l.length = 0 ∧ cap = 0) ∧ (b < w.heap.size ∨ l = []) ∧ OpsAt w b off l
theorem IsOps.below {w w1 : World} {B : Nat} {v : Value} {l : List Op3} (h : IsOps w v l) (hb : Below B w w1) (hB : w.heap.size ≤ B) : IsOps w1 v l := by
  obtain ⟨ad, b, off, cap, hv, ha, hn, hbB, hops⟩ := h
  have hs := hb.size
  refine ⟨ad, b, off, cap, hv, ha, hn, ?_, hops.below hb ?_⟩
  · rcases hbB with h | h
    · exact .inl (by omega)
    · exact .inr h
  · rcases hbB with h | h
    · exact .inl (by omega)
    · exact .inr h
theorem isOps_nil (w : World) : IsOps w (.slice none 0 0) [] := ⟨none, 0, 0, 0, rfl, fun h => absurd h (by simp), fun _ => ⟨rfl, rfl⟩, .inr rfl, fun i hi => by simp at hi⟩
theorem isOps_own {w : World} {base e n : Nat} {v : Value} {l : List Op3} (h : w.ownsRow base e 3 v n (flat l)) (hl : l.length = n) : IsOps w v l := by
  have h' := h
  obtain ⟨_, ⟨hv, hd⟩ | ⟨g, cap, cur, hv, hb, hg, hn, hm, hsz, htk⟩⟩ := h'
  · have : l = [] := List.length_eq_zero_iff.1 (by omega)
    subst this
    rw [hv]
    exact isOps_nil w
  · refine ⟨some ⟨g, 0, none⟩, g, 0, cap, by rw [hl]; exact hv, fun _ => rfl, fun h => (by simp at h), .inl (h.lt g (by rw [hv]; rfl)).2, opsAt_of fun j u hj => ?_⟩
    have := h.cells (g := g) (by rw [hv]; rfl) j u hj
    rw [Addr.add_lit] at this
    exact this
theorem check_v (l : List Op3) (v : Value) (w : World) (h : IsOps w v l) :
    Calls Tryd.prog 43 #[v] w fun e w' => e = .returned (.tuple #[.int .i64 (chk l).1, errV (chk l).2]) ∧ Below w.heap.size w w' := by
  obtain ⟨ad, b, off, cap, rfl, ha, _, hbB, hops⟩ := h
  exact check_any l ad b off cap w ha hbB hops
theorem check_ok (l : List Op3) (v : Value) (w : World) (h : IsOps w v l) (hc : (chk l).2 = 0) :
    Calls Tryd.prog 43 #[v] w fun e w' => e = .returned (.tuple #[.int .i64 (chk l).1, .nilIface]) ∧ Below w.heap.size w w' := by
  refine (check_v l v w h).mono ?_
  rintro e w' ⟨he, hb⟩
  rw [hc] at he
  exact ⟨he, hb⟩
/-- One op just built lies there. -/
theorem one_at (w : World) (t a i : Int) : ∀ j u, (flat [(t, a, i)])[j]? = some u → (w.alloc (.cells #[.int .i64 t, .int .i64 a, .int .i64 i] 57)).cell? ((⟨w.heap.size, 0, none⟩ : Addr).add j) = some u := by
  intro j u hj
  match j, hj with
  | 0, hj => simp [flat] at hj; subst hj; simp [Addr.add]
  | 1, hj => simp [flat] at hj; subst hj; simp [Addr.add]
  | 2, hj => simp [flat] at hj; subst hj; simp [Addr.add]
  | k + 3, hj => simp [flat] at hj
end Go.Proofs.YtmjjiehnjghndaaDoor

namespace Go.Proofs.YtmjjiehnjghndaaDoor
open Go.RowKit

theorem isOf1_any (t a i tx : Int) (c : Nat) (w : World) (hc : w.cell? ⟨c, 0, none⟩ = some (.int .i64 tx)) (hcl : c < w.heap.size) :
    Calls Tryd.prog 77 #[.agg #[.int .i64 t, .int .i64 a, .int .i64 i], .pointer (some ⟨c, 0, none⟩)] w fun e w' => e = .returned (.bool (t == tx)) ∧ w' = w.alloc (.cells #[.int .i64 t, .int .i64 a, .int .i64 i] 57) := by
  go_enter Tryd.func77, Tryd.ntmps77
  go_wp2
  go_ret
  exact ⟨rfl, rfl⟩
theorem done1_any (t a i : Int) (c : Nat) (f : Nat → Bool) (w : World) (hc : ∀ j, j < 7 → w.cell? ⟨c, j, none⟩ = some (.bool (f j))) (hcl : c < w.heap.size) (ht : 1 ≤ t) (ht6 : t ≤ 6) :
    Calls Tryd.prog 67 #[.agg #[.int .i64 t, .int .i64 a, .int .i64 i], .pointer (some ⟨c, 0, none⟩)] w fun e w' => e = .returned (.bool (f t.toNat)) ∧ w' = w.alloc (.cells #[.int .i64 t, .int .i64 a, .int .i64 i] 57) := by
  have hc' := hc t.toNat (by omega)
  clear hc
  go_enter Tryd.func67, Tryd.ntmps67
  go_wp2
  go_ret
  exact ⟨rfl, rfl⟩
theorem filter_snoc (q : Op3 → Bool) (l : List Op3) (k : Nat) (o : Op3) (h : l.take (k + 1) = l.take k ++ [o]) : (l.take (k + 1)).filter q = (l.take k).filter q ++ (if q o then [o] else []) := by
  rw [h, List.filter_append]
  cases hq : q o <;> simp [hq]
theorem take_len (q : Op3 → Bool) (l : List Op3) (k : Nat) : ((l.take k).filter q).length ≤ k := by
  have h1 := List.length_filter_le q (l.take k)
  have h2 : (l.take k).length ≤ k := List.length_take_le _ _
  omega

set_option maxHeartbeats 2000000 in
theorem keep_done (l : List Op3) (ad : Option Addr) (b off cap : Nat) (c : Nat) (f : Nat → Bool) (hin : ∀ o ∈ l, 1 ≤ o.1 ∧ o.1 ≤ 6) (w : World) (hlen : l.length ≤ 140737488351) (ha : 0 < l.length → ad = some ⟨b, off, none⟩) (hbB : b < w.heap.size ∨ l = []) (hops : OpsAt w b off l) (hc : ∀ j, j < 7 → w.cell? ⟨c, j, none⟩ = some (.bool (f j))) (hcl : c < w.heap.size) :
    Calls Tryd.prog 66 #[.slice ad l.length cap, .func (.func 67) #[] #[.pointer (some ⟨c, 0, none⟩)]] w fun e w' => ∃ v, e = .returned v ∧ IsOps w' v (l.filter (fun o : Op3 => f o.1.toNat)) ∧ Below w.heap.size w w' := by
  go_enter Tryd.func66, Tryd.ntmps66
  go_wp2
  go_loopw [5, 10] (fun v5 v10 wr => ∃ k : Nat, k ≤ l.length ∧ v10 = .int .i64 k ∧ wr.ownsRow w.heap.size 57 3 v5 ((l.take k).filter (fun o : Op3 => f o.1.toNat)).length (flat ((l.take k).filter (fun o : Op3 => f o.1.toNat))) ∧ Below w.heap.size w wr) (fun _ v10 _ => l.length - (intOf v10).toNat)
  case atStart => exact ⟨0, Nat.zero_le _, rfl, World.ownsRow_nil _ _ _ _, Below.refl _ _⟩
  case round =>
    obtain ⟨k, hk, rfl, hown, hbel⟩ := hrel
    by_cases hlt : k < l.length
    · obtain rfl := ha (by omega)
      obtain ⟨c0, c1, c2⟩ := hops k hlt
      have hb1 : b < w.heap.size := by
        rcases hbB with h | h
        · exact h
        · subst h; simp at hlt
      rw [← hbel.cell (p := ⟨b, off + k * 3, none⟩) hb1] at c0
      rw [← hbel.cell (p := ⟨b, off + k * 3 + 1, none⟩) hb1] at c1
      rw [← hbel.cell (p := ⟨b, off + k * 3 + 2, none⟩) hb1] at c2
      obtain ⟨⟨t, a, i⟩, ho⟩ : ∃ o : Op3, l.getD k (0, 0, 0) = o := ⟨_, rfl⟩
      rw [ho] at c0 c1 c2
      have hto := hin (t, a, i) (by rw [← ho]; simp [List.getD, List.getElem?_eq_getElem hlt])
      have HT : Hid (l.take (k + 1) = l.take k ++ [(t, a, i)]) := by
        show l.take (k + 1) = l.take k ++ [(t, a, i)]
        rw [List.take_succ_eq_append_getElem hlt, ← ho]; simp [List.getD, List.getElem?_eq_getElem hlt]
      have hsz := hbel.size
      have hcw : ∀ j, j < 7 → wr.cell? ⟨c, j, none⟩ = some (.bool (f j)) := fun j hj => by rw [hbel.cell (p := ⟨c, j, none⟩) hcl]; exact hc j hj
      have HCW : Hid (∀ j, j < 7 → wr.cell? ⟨c, j, none⟩ = some (.bool (f j))) := hcw
      have HC0 : Hid (∀ j, j < 7 → w.cell? ⟨c, j, none⟩ = some (.bool (f j))) := hc
      clear hcw hc
      obtain ⟨ht1, ht6⟩ := hto
      simp only at ht1 ht6
      have hkl := take_len (fun o : Op3 => f o.1.toNat) l k
      clear ho hops ha hbB
      simp only at c0 c1 c2
      cases hq : (fun o : Op3 => f o.1.toNat) (t, a, i) with
      | false =>
        have HQ : Hid ((fun o : Op3 => f o.1.toNat) (t, a, i) = false) := hq
        simp only at hq
        go_wp2_with (go_at_call 67; refine (done1_any t a i c f _ (fun j hj => by rw [World.cell?_alloc_lt _ _ ⟨c, j, none⟩ (by simp; omega)]; exact HCW.out j hj) (by simp; omega) ht1 ht6).mono ?_; rintro e w' ⟨rfl, rfl⟩)
        go_roundw
        case rel => exact ⟨k + 1, by omega, by go_num, by rw [filter_snoc _ l k _ HT.out, HQ.out]; simpa using (hown.alloc _).alloc _, (hbel.alloc (by omega) _).alloc (by simp; omega) _⟩
        case measure => simp [intOf]; omega
      | true =>
        have HQ : Hid ((fun o : Op3 => f o.1.toNat) (t, a, i) = true) := hq
        simp only at hq
        obtain ⟨i0, hi, hz0, hs0, hy0⟩ := info_parts infoOp
        have HI : Hid (Tryd.prog.info? 57 = some i0 ∧ i0.zero = some (.agg #[.int .i64 0, .int .i64 0, .int .i64 0]) ∧ i0.size = 3 ∧ i0.bytes = 24) := ⟨hi, hz0, hs0, hy0⟩
        clear hi hz0 hs0 hy0
        go_wp2_with (first | (go_at_call 67; refine (done1_any t a i c f _ (fun j hj => by rw [World.cell?_alloc_lt _ _ ⟨c, j, none⟩ (by simp; omega)]; exact HCW.out j hj) (by simp; omega) ht1 ht6).mono ?_; rintro e w' ⟨rfl, rfl⟩) | (at_builtin; refine wpList_append_own _ rfl (.tmp 17) (.tmp 19) 22 rfl w.heap.size 57 i0 (.agg #[.int .i64 0, .int .i64 0, .int .i64 0]) 3 24 Tryd.underlying22 HI.out.1 HI.out.2.1 HI.out.2.2.1 HI.out.2.2.2 rfl (by decide) u5 ((l.take k).filter (fun o : Op3 => f o.1.toNat)).length (flat ((l.take k).filter (fun o : Op3 => f o.1.toNat))) rfl (((hown.alloc _).alloc _).alloc _) ⟨wr.heap.size + 1 + 1, 0, none⟩ 1 1 (flat [(t, a, i)]) rfl rfl (by have := one_at ((wr.alloc (.cells #[.int .i64 t, .int .i64 a, .int .i64 i] 57)).alloc (.cells #[.int .i64 t, .int .i64 a, .int .i64 i] 57)) t a i; simpa using this) (flat_one _) (by unfold maxLen; omega) (by omega) (by simp; omega) ?_; intro v' w1 hown1 hgr1 hnil1))
        have hB1 := (((hbel.alloc hsz _).alloc (by simp; omega) _).alloc (by simp; omega) _).grown hgr1 (by simp; omega) (fun m hm => (hown.lt m hm).1)
        go_roundw
        case rel => exact ⟨k + 1, by omega, by go_num, by rw [filter_snoc _ l k _ HT.out, HQ.out]; simpa [flat_append] using hown1, hB1⟩
        case measure => simp [intOf]; omega
    · go_wp2
      go_ret
      exact ⟨_, rfl, by rw [List.take_of_length_le (by omega)] at hown; exact isOps_own hown rfl, hbel⟩

end Go.Proofs.YtmjjiehnjghndaaDoor
