/-
  PROVED HERE: history.keep gives those ops of a list that a closure says yes to, in order, in new memory: for the two closures that the program hands it (the ops of a deal; the ops of the deals that commit). Old memory stays as it was.
  Conditions: none.
  (Of these, what the claim wants: the rest was left out.)
-/
import Derived.Test.YtmjjiehnjghndaaOps
namespace Go.Proofs.Ytmjjiehnjghndaa
open Go.RowKit

theorem isOf1_any (t a i tx : Int) (c : Nat) (w : World) (hc : w.cell? ⟨c, 0, none⟩ = some (.int .i64 tx)) (hcl : c < w.heap.size) :
    Calls Try.prog 41 #[.agg #[.int .i64 t, .int .i64 a, .int .i64 i], .pointer (some ⟨c, 0, none⟩)] w fun e w' => e = .returned (.bool (t == tx)) ∧ w' = w.alloc (.cells #[.int .i64 t, .int .i64 a, .int .i64 i] 24) := by
  go_enter Try.func41, Try.ntmps41
  go_wp2
  go_ret
  exact ⟨rfl, rfl⟩
theorem done1_any (t a i : Int) (c : Nat) (f : Nat → Bool) (w : World) (hc : ∀ j, j < 7 → w.cell? ⟨c, j, none⟩ = some (.bool (f j))) (hcl : c < w.heap.size) (ht : 1 ≤ t) (ht6 : t ≤ 6) :
    Calls Try.prog 42 #[.agg #[.int .i64 t, .int .i64 a, .int .i64 i], .pointer (some ⟨c, 0, none⟩)] w fun e w' => e = .returned (.bool (f t.toNat)) ∧ w' = w.alloc (.cells #[.int .i64 t, .int .i64 a, .int .i64 i] 24) := by
  have hc' := hc t.toNat (by omega)
  clear hc
  go_enter Try.func42, Try.ntmps42
  go_wp2
  go_ret
  exact ⟨rfl, rfl⟩
theorem filter_snoc (q : Op3 → Bool) (l : List Op3) (k : Nat) (o : Op3) (h : l.take (k + 1) = l.take k ++ [o]) : (l.take (k + 1)).filter q = (l.take k).filter q ++ (if q o then [o] else []) := by
  rw [h, List.filter_append]
  cases hq : q o <;> simp [hq]
theorem take_len (q : Op3 → Bool) (l : List Op3) (k : Nat) : ((l.take k).filter q).length ≤ k := by
  have h1 := List.length_filter_le q (l.take k)
  have h2 : (l.take k).length ≤ k := List.length_take_le _ _
  omega

set_option maxHeartbeats 2000000 in
theorem keep_done (l : List Op3) (ad : Option Addr) (b off cap : Nat) (c : Nat) (f : Nat → Bool) (hin : ∀ o ∈ l, 1 ≤ o.1 ∧ o.1 ≤ 6) (w : World) (hlen : l.length ≤ 140737488351) (ha : 0 < l.length → ad = some ⟨b, off, none⟩) (hbB : b < w.heap.size ∨ l = []) (hops : OpsAt w b off l) (hc : ∀ j, j < 7 → w.cell? ⟨c, j, none⟩ = some (.bool (f j))) (hcl : c < w.heap.size) :
    Calls Try.prog 21 #[.slice ad l.length cap, .func (.func 42) #[] #[.pointer (some ⟨c, 0, none⟩)]] w fun e w' => ∃ v, e = .returned v ∧ IsOps w' v (l.filter (fun o : Op3 => f o.1.toNat)) ∧ Below w.heap.size w w' := by
  go_enter Try.func21, Try.ntmps21
  go_wp2
  go_loopw [5, 10] (fun v5 v10 wr => ∃ k : Nat, k ≤ l.length ∧ v10 = .int .i64 k ∧ wr.ownsRow w.heap.size 24 3 v5 ((l.take k).filter (fun o : Op3 => f o.1.toNat)).length (flat ((l.take k).filter (fun o : Op3 => f o.1.toNat))) ∧ Below w.heap.size w wr) (fun _ v10 _ => l.length - (intOf v10).toNat)
  case atStart => exact ⟨0, Nat.zero_le _, rfl, World.ownsRow_nil _ _ _ _, Below.refl _ _⟩
  case round =>
    obtain ⟨k, hk, rfl, hown, hbel⟩ := hrel
    by_cases hlt : k < l.length
    · obtain rfl := ha (by omega)
      obtain ⟨c0, c1, c2⟩ := hops k hlt
      have hb1 : b < w.heap.size := by
        rcases hbB with h | h
        · exact h
        · subst h; simp at hlt
      rw [← hbel.cell (p := ⟨b, off + k * 3, none⟩) hb1] at c0
      rw [← hbel.cell (p := ⟨b, off + k * 3 + 1, none⟩) hb1] at c1
      rw [← hbel.cell (p := ⟨b, off + k * 3 + 2, none⟩) hb1] at c2
      obtain ⟨⟨t, a, i⟩, ho⟩ : ∃ o : Op3, l.getD k (0, 0, 0) = o := ⟨_, rfl⟩
      rw [ho] at c0 c1 c2
      have hto := hin (t, a, i) (by rw [← ho]; simp [List.getD, List.getElem?_eq_getElem hlt])
      have HT : Hid (l.take (k + 1) = l.take k ++ [(t, a, i)]) := by
        show l.take (k + 1) = l.take k ++ [(t, a, i)]
        rw [List.take_succ_eq_append_getElem hlt, ← ho]; simp [List.getD, List.getElem?_eq_getElem hlt]
      have hsz := hbel.size
      have hcw : ∀ j, j < 7 → wr.cell? ⟨c, j, none⟩ = some (.bool (f j)) := fun j hj => by rw [hbel.cell (p := ⟨c, j, none⟩) hcl]; exact hc j hj
      have HCW : Hid (∀ j, j < 7 → wr.cell? ⟨c, j, none⟩ = some (.bool (f j))) := hcw
      have HC0 : Hid (∀ j, j < 7 → w.cell? ⟨c, j, none⟩ = some (.bool (f j))) := hc
      clear hcw hc
      obtain ⟨ht1, ht6⟩ := hto
      simp only at ht1 ht6
      have hkl := take_len (fun o : Op3 => f o.1.toNat) l k
      clear ho hops ha hbB
      simp only at c0 c1 c2
      cases hq : (fun o : Op3 => f o.1.toNat) (t, a, i) with
      | false =>
        have HQ : Hid ((fun o : Op3 => f o.1.toNat) (t, a, i) = false) := hq
        simp only at hq
        go_wp2_with (go_at_call 42; refine (done1_any t a i c f _ (fun j hj => by rw [World.cell?_alloc_lt _ _ ⟨c, j, none⟩ (by simp; omega)]; exact HCW.out j hj) (by simp; omega) ht1 ht6).mono ?_; rintro e w' ⟨rfl, rfl⟩)
        go_roundw
        case rel => exact ⟨k + 1, by omega, by go_num, by rw [filter_snoc _ l k _ HT.out, HQ.out]; simpa using (hown.alloc _).alloc _, (hbel.alloc (by omega) _).alloc (by simp; omega) _⟩
        case measure => simp [intOf]; omega
      | true =>
        have HQ : Hid ((fun o : Op3 => f o.1.toNat) (t, a, i) = true) := hq
        simp only at hq
        obtain ⟨i0, hi, hz0, hs0, hy0⟩ := info_parts infoOp
        have HI : Hid (Try.prog.info? 24 = some i0 ∧ i0.zero = some (.agg #[.int .i64 0, .int .i64 0, .int .i64 0]) ∧ i0.size = 3 ∧ i0.bytes = 24) := ⟨hi, hz0, hs0, hy0⟩
        clear hi hz0 hs0 hy0
        go_wp2_with (first | (go_at_call 42; refine (done1_any t a i c f _ (fun j hj => by rw [World.cell?_alloc_lt _ _ ⟨c, j, none⟩ (by simp; omega)]; exact HCW.out j hj) (by simp; omega) ht1 ht6).mono ?_; rintro e w' ⟨rfl, rfl⟩) | (at_builtin; refine wpList_append_own _ rfl (.tmp 17) (.tmp 19) 22 rfl w.heap.size 24 i0 (.agg #[.int .i64 0, .int .i64 0, .int .i64 0]) 3 24 Try.underlying22 HI.out.1 HI.out.2.1 HI.out.2.2.1 HI.out.2.2.2 rfl (by decide) u5 ((l.take k).filter (fun o : Op3 => f o.1.toNat)).length (flat ((l.take k).filter (fun o : Op3 => f o.1.toNat))) rfl (((hown.alloc _).alloc _).alloc _) ⟨wr.heap.size + 1 + 1, 0, none⟩ 1 1 (flat [(t, a, i)]) rfl rfl (by have := one_at ((wr.alloc (.cells #[.int .i64 t, .int .i64 a, .int .i64 i] 24)).alloc (.cells #[.int .i64 t, .int .i64 a, .int .i64 i] 24)) t a i; simpa using this) (flat_one _) (by unfold maxLen; omega) (by omega) (by simp; omega) ?_; intro v' w1 hown1 hgr1 hnil1))
        have hB1 := (((hbel.alloc hsz _).alloc (by simp; omega) _).alloc (by simp; omega) _).grown hgr1 (by simp; omega) (fun m hm => (hown.lt m hm).1)
        go_roundw
        case rel => exact ⟨k + 1, by omega, by go_num, by rw [filter_snoc _ l k _ HT.out, HQ.out]; simpa [flat_append] using hown1, hB1⟩
        case measure => simp [intOf]; omega
    · go_wp2
      go_ret
      exact ⟨_, rfl, by rw [List.take_of_length_le (by omega)] at hown; exact isOps_own hown rfl, hbel⟩

end Go.Proofs.Ytmjjiehnjghndaa
