/-
  PROVED HERE: graph.ringOf gives the first ring by numbers of so many, or none; graph.Ring the first of the fewest, ErrNone where there is none, and of wrong edges Check's error. Old memory stays as it was.
  Conditions: none.
  (Of these, what the claim wants: the rest was left out.)
-/
import Derived.Test.YtmjjiehnjghndaaGraphGrow
namespace Go.Proofs.Ytmjjiehnjghndaa
open Go.RowKit

theorem grow_any (f : Nat) : GrowOk f := by
  induction f with
  | zero => exact grow_zero
  | succ f ih => exact grow_succ f ih
theorem natV_ints (r : List Nat) : natV r = (r.map fun (k : Nat) => (k : Int)).map (Value.int .i64) := by simp [natV]

theorem grow_start (n : Nat) (w : World) (m : Step7) : GrowAt ((((w.alloc (.cells #[.int .i64 n] 3)).alloc (.cells (cells49 m) 66)).alloc (.cells #[.slice none 0 0] 35)).alloc (.cells #[.func (.func 53) #[] #[.pointer (some ⟨w.heap.size + 1 + 1, 0, none⟩), .pointer (some ⟨w.heap.size, 0, none⟩), .pointer (some ⟨w.heap.size + 1, 0, none⟩), .pointer (some ⟨w.heap.size + 1 + 1 + 1, 0, none⟩)]] 81)) (w.heap.size + 1 + 1) w.heap.size (w.heap.size + 1) (w.heap.size + 1 + 1 + 1) (w.heap.size + 4) n m (.slice none 0 0) [] ∧ Below w.heap.size w ((((w.alloc (.cells #[.int .i64 n] 3)).alloc (.cells (cells49 m) 66)).alloc (.cells #[.slice none 0 0] 35)).alloc (.cells #[.func (.func 53) #[] #[.pointer (some ⟨w.heap.size + 1 + 1, 0, none⟩), .pointer (some ⟨w.heap.size, 0, none⟩), .pointer (some ⟨w.heap.size + 1, 0, none⟩), .pointer (some ⟨w.heap.size + 1 + 1 + 1, 0, none⟩)]] 81)) := by
  have hm : MatAt ((w.alloc (.cells #[.int .i64 n] 3)).alloc (.cells (cells49 m) 66)) (w.heap.size + 1) m := by
    have := mat_box (w.alloc (.cells #[.int .i64 n] 3)) m
    simpa using this
  refine ⟨⟨?_, ?_, World.ownsRow_nil _ _ _ _, ?_, (hm.alloc _).alloc _, ?_, ⟨by omega, by omega, by omega, by omega, by simp⟩, by omega, by omega, by omega⟩, ((((Below.refl _ w).alloc (Nat.le_refl _) _).alloc (by simp) _).alloc (by simp; omega) _).alloc (by simp; omega) _⟩
  · rw [World.cell?_alloc_past _ _ _ (by simp), World.cell?_alloc_at _ _ _ _ (by simp)]; rfl
  · rw [World.frozen?_alloc_past _ _ _ (by simp), World.frozen?_alloc_at _ _ _ _ (by simp)]
  · rw [World.cell?_alloc_past _ _ _ (by simp; omega), World.cell?_alloc_past _ _ _ (by simp; omega), World.cell?_alloc_past _ _ _ (by simp), World.cell?_alloc_at _ _ _ _ rfl]; rfl
  · rw [World.cell?_alloc_at _ _ _ _ (by simp)]; rfl

set_option maxHeartbeats 4000000 in
theorem ringOf_any (n : Nat) (m : Step7) (w : World) (h1 : 1 ≤ n) (h6 : n ≤ 6) :
    Calls Try.prog 35 #[.int .i64 n, .agg (cells49 m)] w fun e w' => ∃ (v' : Value) (r' : List Nat), e = .returned v' ∧ (growF m n [] = some r' ∨ (growF m n [] = none ∧ r' = [])) ∧ IsInts w' v' (r'.map fun (k : Nat) => (k : Int)) ∧ Below w.heap.size w w' := by
  go_enter Try.func35, Try.ntmps35
  go_wp2_with fail
  rw [store_func _ _ _ _ _ _ _ (by simp)]
  go_wp2_with fail
  have hst := grow_start n w m
  obtain ⟨W0, hW0⟩ : ∃ W0, W0 = ((((w.alloc (.cells #[.int .i64 n] 3)).alloc (.cells (cells49 m) 66)).alloc (.cells #[.slice none 0 0] 35)).alloc (.cells #[.func (.func 53) #[] #[.pointer (some ⟨w.heap.size + 1 + 1, 0, none⟩), .pointer (some ⟨w.heap.size, 0, none⟩), .pointer (some ⟨w.heap.size + 1, 0, none⟩), .pointer (some ⟨w.heap.size + 1 + 1 + 1, 0, none⟩)]] 81)) := ⟨_, rfl⟩
  rw [← hW0] at hst ⊢
  clear hW0
  obtain ⟨hG, hbe⟩ := hst
  refine (grow_any n [] W0 _ _ _ _ _ n m _ (by simp) h1 h6 (fun k hk => by cases hk) hG).mono ?_
  rintro e w1 ⟨⟨v1, r1, hor, hG1⟩, hp1⟩
  have HG1 : Hid (GrowAt w1 (w.heap.size + 1 + 1) w.heap.size (w.heap.size + 1) (w.heap.size + 1 + 1 + 1) (w.heap.size + 4) n m v1 r1) := hG1
  have HB : Hid (Below w.heap.size w w1) := hbe.trans (hp1.below (by omega) (by omega))
  have c0 := hG1.ring
  have HI : Hid (IsInts w1 v1 (r1.map fun (k : Nat) => (k : Int))) := isInts_own (n := r1.length) (by have := hG1.own; rw [natV_ints] at this; exact this) (by simp)
  clear hG hbe hG1 hp1
  rcases hor with ⟨hs, rfl⟩ | ⟨hs, hr, rfl⟩
  · have HS : Hid (growF m n [] = some r1) := hs
    clear hs
    go_wp2_with fail
    go_ret
    exact ⟨v1, r1, rfl, .inl HS.out, HI.out, HB.out⟩
  · have HS : Hid (growF m n [] = none ∧ r1 = []) := ⟨hs, hr⟩
    clear hs hr
    go_wp2_with fail
    go_ret
    exact ⟨v1, r1, rfl, .inr HS.out, HI.out, HB.out⟩

set_option maxHeartbeats 4000000 in
theorem ring_any (l : List Edge2) (v : Value) (w : World) (hI : IsEdges w v l) (hc : gchk l = 0) :
    Calls Try.prog 12 #[v] w fun e w' => ((∃ (r : List Nat) (v' : Value), ringL l = some r ∧ e = .returned (.tuple #[v', .nilIface]) ∧ IsInts w' v' (r.map fun (k : Nat) => (k : Int))) ∨ (ringL l = none ∧ e = .returned (.tuple #[.slice none 0 0, .iface 46 (.int .i64 5)]))) ∧ Below w.heap.size w w' := by
  have HI : Hid (∀ W, Below w.heap.size w W → IsEdges W v l) := fun W hW => hI.below hW (Nat.le_refl _)
  have hl := gchk_len hc
  have HD : Hid (∀ e ∈ l, (1 ≤ e.1 ∧ e.1 ≤ 6) ∧ (1 ≤ e.2 ∧ e.2 ≤ 6)) := gchk_deal hc
  go_enter Try.func12, Try.ntmps12
  go_wp2_with fail
  refine (gcheck_ok l _ _ hI hc).mono ?_
  rintro e w1 ⟨rfl, hb1⟩
  clear hc hI
  go_wp2_with fail
  refine (stepsOf_any l _ _ (HI.out _ hb1) HD.out hl).mono ?_
  rintro e w2 ⟨rfl, hb2⟩
  have hb02 := hb1.trans (hb2.mono hb1.size)
  have HN2 : Hid (w.heap.size ≤ w2.heap.size) := hb02.size
  clear hb1 hb2
  go_wp2_with (refine wpList_store_row rfl 66 (.tmp 5) (.tmp 14) rfl w2.heap.size (cells49 (stepsS l)) rfl rfl 66 (cells49 fun _ _ => false) (mat_fresh w2 _ rfl) (mat_info' _) (by rw [cells49_size, cells49_size]) (cells49_one _) ?_)
  go_loopw [6] (fun v6 wr => ∃ n : Nat, 1 ≤ n ∧ n ≤ 7 ∧ v6 = .int .i64 n ∧ MatAt wr w2.heap.size (stepsS l) ∧ Below w.heap.size w wr ∧ (∀ j, 1 ≤ j → j < n → growF (stepsS l) j [] = none)) (fun v6 _ => 7 - (intOf v6).toNat)
  case atStart => exact ⟨1, by omega, by omega, rfl, setRow_heap _ _ _ _ _ _ (mat_fresh w2 _ rfl), below_setRow (hb02.alloc hb02.size _) HN2.out _, fun j h1 h2 => absurd h1 (by omega)⟩
  case round =>
    clear hb02
    obtain ⟨n, hn1, hn7, rfl, hm, hbel, hno⟩ := hrel
    have HM : Hid (MatAt wr w2.heap.size (stepsS l)) := hm
    have hml := hm.lt
    have HNO : Hid (∀ j, 1 ≤ j → j < n → growF (stepsS l) j [] = none) := hno
    clear hm hno
    by_cases hlt : n < 7
    · have hn6 : (n : Int) ≤ 6 := by omega
      go_wp2_with (refine wpList_load_row rfl 66 (.tmp 5) rfl w2.heap.size rfl 66 (cells49 (stepsS l)) (0, 0) _ HM.out Try.underlying66 rfl (mat_info' _) ?_)
      refine (ringOf_any n (stepsS l) _ hn1 (by omega)).mono ?_
      rintro e w3 ⟨v3, r3, rfl, hor, hI3, hb3⟩
      have HI3 : Hid (IsInts w3 v3 (r3.map fun (k : Nat) => (k : Int))) := hI3
      obtain ⟨ad3, b3, off3, cap3, hv3, -⟩ := hI3
      subst hv3
      rw [List.length_map] at HI3 ⊢
      have hb03 := hbel.trans (hb3.mono hbel.size)
      rcases hor with hs | ⟨hs, hr3⟩
      · have HR : Hid (ringL l = some r3) := ring_hit hn1 (by omega) hs HNO.out
        have hlen := growF_some n [] r3 hs
        have hpos : (0 : Int) < (r3.length : Int) := by simp at hlen; omega
        clear hs hlen
        go_wp2_with fail
        go_ret2
        exact ⟨.inl ⟨r3, _, HR.out, rfl, HI3.out⟩, hb03⟩
      · have HS : Hid (growF (stepsS l) n [] = none) := hs
        subst hr3
        clear hs
        go_wp2_with fail
        go_roundw
        case rel =>
          refine ⟨n + 1, by omega, by omega, by go_num, HM.out.below hb3 hml, hb03, fun j h1 h2 => ?_⟩
          rcases Nat.lt_or_ge j n with h | h
          · exact HNO.out j h1 h
          · rw [show j = n by omega]; exact HS.out
        case measure => simp [intOf]; omega
    · have hn6 : ¬ (n : Int) ≤ 6 := by omega
      have HR : Hid (ringL l = none) := ring_none fun j h1 h2 => HNO.out j h1 (by omega)
      go_wp2_with fail
      go_ret2
      exact ⟨.inr ⟨HR.out, rfl⟩, hbel⟩
end Go.Proofs.Ytmjjiehnjghndaa
