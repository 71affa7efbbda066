/-
  PROVED HERE: package tree's take: a grip is taken, or refused, and how (gripE).
  Conditions: the tree is right; nobody holds item 0; who had an item is a deal that began.
-/
import Derived.Test.YtmgadiopjofegaiDoorTSt2
namespace Go.Proofs.YtmgadiopjofegaiDoor
open Go.RowKit

def ldStep (s : Gst) (L : Int → Int → Bool) (g : Grip3) : Int → Int → Bool := if g.2.2 = true then ldTo s L g.1 g.2.1 7 else L
theorem gripE_let {up : List Int} {s : Gst} {t x : Int} (h : ¬ ((t < 1 ∨ 6 < t) ∨ x < 1 ∨ (up.length : Int) < x)) : gripE up s (t, x, false) = if s.holder x ≠ t then 5 else 0 := by
  unfold gripE
  simp only
  rw [if_neg h, if_pos (by simp)]
theorem gripE_bad {up : List Int} {s : Gst} {t x : Int} {b : Bool} (h : (t < 1 ∨ 6 < t) ∨ x < 1 ∨ (up.length : Int) < x) : gripE up s (t, x, b) = 1 := by
  unfold gripE
  rw [if_pos h]
set_option maxHeartbeats 8000000 in
set_option maxRecDepth 100000 in
theorem take_fn (B M : Nat) (s : Gst) (L : Int → Int → Bool) (up : List Int) (t x : Int) (b : Bool) (vu : Value) (w : World) (h : Std w B M vu s L) (hI : IsInts w vu up) (hu : up.length ≤ 6) (h00 : s.holder 0 = 0) (hup0 : up.getD 0 0 = 0) (hupr : ∀ y, y < up.length → 0 ≤ up.getD y 0 ∧ up.getD y 0 ≤ 6) (hfst : ∀ t : Int, 1 ≤ t → t ≤ 6 → s.first t = any7 fun k => s.had t (k : Int)) :
    Calls Tryd.prog 19 #[.pointer (some ⟨B, 0, none⟩), .agg #[.int .i64 t, .int .i64 x, .bool b]] w fun e w' => e = .returned (errV (gripE up s (t, x, b))) ∧ (gripE up s (t, x, b) = 0 → Std w' B M vu (stepG s (t, x, b)) (ldStep s L (t, x, b))) ∧ Turns (fun k => k = B ∨ k = M) w w' := by
  have c0 := h.blk.up
  have hBl := h.blk.lt
  have HT0 : Hid (∀ (o : Obj) n, Turns (fun k => k = B ∨ k = M) w ((w.alloc o).drewN n)) := fun o n => Turns.of_below (below_drewN ((Below.refl _ w).alloc (Nat.le_refl _) o) n)
  have HB0 : Hid (∀ (o : Obj) n, Below w.heap.size w ((w.alloc o).drewN n)) := fun o n => below_drewN ((Below.refl _ w).alloc (Nat.le_refl _) o) n
  have HS := hid_r h
  have HII := hid_r hI
  obtain ⟨ad, bb, off, cap, rfl, -⟩ := hI
  obtain ⟨N, hN⟩ : ∃ N, up.length = N := ⟨_, rfl⟩
  have HN := hid_r hN
  by_cases hr : (t < 1 ∨ 6 < t) ∨ x < 1 ∨ (up.length : Int) < x
  · rw [gripE_bad hr]
    rw [hN] at hr c0
    clear h hN HS HII HB0
    by_cases h1 : t < 1
    · clear hr
      go_enter Tryd.func19, Tryd.ntmps19
      go_wp2_with fail
      go_quiet (fail)
      go_wp2_with fail
      go_ret
      first | exact ⟨rfl, fun e => absurd e (by decide), HT0.out _ _⟩ | exact ⟨rfl, HT0.out _ _⟩
    · have d1 : decide (t < 1) = false := decide_eq_false h1
      by_cases h2 : 6 < t
      · clear hr
        go_enter Tryd.func19, Tryd.ntmps19
        go_wp2_with fail
        go_quiet (fail)
        go_wp2_with fail
        go_ret
        first | exact ⟨rfl, fun e => absurd e (by decide), HT0.out _ _⟩ | exact ⟨rfl, HT0.out _ _⟩
      · have d2 : decide (6 < t) = false := decide_eq_false h2
        by_cases h3 : x < 1
        · clear hr
          go_enter Tryd.func19, Tryd.ntmps19
          go_wp2_with fail
          go_quiet (fail)
          go_wp2_with fail
          go_ret
          first | exact ⟨rfl, fun e => absurd e (by decide), HT0.out _ _⟩ | exact ⟨rfl, HT0.out _ _⟩
        · have h4 : (N : Int) < x := by omega
          have d3 : decide (x < 1) = false := decide_eq_false h3
          clear hr
          go_enter Tryd.func19, Tryd.ntmps19
          go_wp2_with fail
          go_quiet (fail)
          go_wp2_with fail
          go_ret
          first | exact ⟨rfl, fun e => absurd e (by decide), HT0.out _ _⟩ | exact ⟨rfl, HT0.out _ _⟩
  · have HR : Hid ((t < 1 ∨ 6 < t) ∨ x < 1 ∨ (up.length : Int) < x → False) := hr
    have hr1 : ¬ t < 1 := by omega
    have hr2 : ¬ 6 < t := by omega
    have hr3 : ¬ x < 1 := by omega
    have hr4 : ¬ (N : Int) < x := by omega
    have d1 : decide (t < 1) = false := decide_eq_false hr1
    have d2 : decide (6 < t) = false := decide_eq_false hr2
    have d3 : decide (x < 1) = false := decide_eq_false hr3
    have d4 : decide ((N : Int) < x) = false := decide_eq_false hr4
    rw [hN] at c0
    cases b with
    | false =>
      have HE : Hid (gripE up s (t, x, false) = if s.holder x ≠ t then 5 else 0) := gripE_let hr
      have HC : Hid (∀ W, Below w.heap.size w W → Calls Tryd.prog 25 #[.pointer (some ⟨B, 0, none⟩), .int .i64 t, .int .i64 x] W fun e w' => e = .returned (errV (if s.holder x ≠ t then 5 else 0)) ∧ (s.holder x = t → Std w' B M (.slice ad up.length cap) { s with holder := setF s.holder x 0 } L) ∧ Turns (fun k => k = M) W w') := fun W hW =>
        letGo_fn B M _ s L t x W (HS.out.later hW) (by omega) (by omega)
      rw [HE.out]
      obtain ⟨E, hE⟩ : ∃ E : Int, (if s.holder x ≠ t then 5 else 0) = E := ⟨_, rfl⟩
      have HQ : Hid (E = 0 → s.holder x = t) := fun e => by
        by_cases hq : s.holder x = t
        · exact hq
        · rw [if_pos hq] at hE; rw [← hE] at e; cases e
      rw [hE] at HC ⊢
      clear h hN HS HII hr hu hup0 hupr hfst h00 HE hE
      go_enter Tryd.func19, Tryd.ntmps19
      go_wp2_with fail
      go_quiet (fail)
      go_wp2_with fail
      refine (HC.out _ (HB0.out _ _)).mono ?_
      rintro e w1 ⟨rfl, h1, h2⟩
      have H1 := hid_r h1
      have H2 : Hid (Turns (fun k => k = B ∨ k = M) w w1) := (HT0.out _ _).trans h2 (fun _ _ e => .inr e)
      clear h1 h2
      go_wp2_with fail
      go_ret
      exact ⟨rfl, fun e => H1.out (HQ.out e), H2.out⟩
    | true =>
      obtain ⟨tn, rfl⟩ : ∃ k : Nat, t = k := ⟨t.toNat, by omega⟩
      obtain ⟨y, rfl⟩ : ∃ y : Nat, x = (y : Int) + 1 := ⟨(x - 1).toNat, by omega⟩
      have HC : Hid (∀ W, Below w.heap.size w W → Calls Tryd.prog 24 #[.pointer (some ⟨B, 0, none⟩), .int .i64 tn, .int .i64 ((y : Int) + 1)] W fun e w' => e = .returned (errV (gripE up s ((tn : Int), (y : Int) + 1, true))) ∧ (gripE up s ((tn : Int), (y : Int) + 1, true) = 0 → Std w' B M (.slice ad up.length cap) (stepG s ((tn : Int), (y : Int) + 1, true)) (ldTo s L (tn : Int) ((y : Int) + 1) 7)) ∧ Turns (fun k => k = B ∨ k = M) W w') := fun W hW =>
        lock_fn B M s L up tn y _ W (HS.out.later hW) (HII.out.below hW (Nat.le_refl _)) hu (by omega) (by omega) (by omega) h00 hup0 (hupr y (by omega)) (hfst _ (by omega) (by omega))
      obtain ⟨E, hE⟩ : ∃ E, gripE up s ((tn : Int), (y : Int) + 1, true) = E := ⟨_, rfl⟩
      rw [hE] at HC ⊢
      clear h hN HS HII hr hu hup0 hupr hfst h00 hE
      go_enter Tryd.func19, Tryd.ntmps19
      go_wp2_with fail
      go_quiet (fail)
      go_wp2_with fail
      refine (HC.out _ (HB0.out _ _)).mono ?_
      rintro e w1 ⟨rfl, h1, h2⟩
      have H1 := hid_r h1
      have H2 : Hid (Turns (fun k => k = B ∨ k = M) w w1) := (HT0.out _ _).trans h2 (fun _ _ e => e)
      clear h1 h2
      go_wp2_with fail
      go_ret
      exact ⟨rfl, H1.out, H2.out⟩
end Go.Proofs.YtmgadiopjofegaiDoor
