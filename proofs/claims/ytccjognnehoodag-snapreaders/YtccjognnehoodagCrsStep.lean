/-
  PROVED HERE: package course: how a deal begins, and whose Write a Read reads, by any rule that is handed in.
  Conditions: what the rules answer is a premise; the lists are short.
-/
import Derived.Test.YtccjognnehoodagCrsValid
namespace Go.Proofs.Ytccjognnehoodag
open Go.RowKit

abbrev RuleFn (N : Nat) : Prop := ∀ (args : Array Value) (W : World), (callFunc N args).run Try.prog W = .ok (.enter N args) W
theorem begM_set (b : Int → Option Nat) (t : Int) (n : Nat) : begM (setF b t (some n)) = setF (begM b) t (some (.int .i64 (n : Int))) := by
  funext u
  unfold begM
  by_cases e : u = t
  · subst e; rw [setF_same, setF_same]; rfl
  · rw [setF_other _ _ e, setF_other _ _ e]
theorem begM_some (b : Int → Option Nat) (t : Int) : (begM b t).isSome = (b t).isSome := by unfold begM; cases b t <;> rfl
set_option maxHeartbeats 8000000 in
set_option maxRecDepth 100000 in
theorem begin_crs {w0 w : World} {R : Nat} {S F : Value} {q : Crs} {c : CLay} (h : CrsAt w0 w R S F q c) {t : Int} (h1 : 1 ≤ t) (h6 : t ≤ 6) :
    Calls Try.prog 74 #[.pointer (some ⟨R, 0, none⟩), .int .i64 t] w fun e w' => e = .returned (.tuple #[]) ∧ CrsAt w0 w' R S F (begQ q t) c ∧ Turns (fun k => k = c.B) w w' := by
  have c3 := h.c3
  have c2 := h.c2
  obtain ⟨m, hm⟩ := h.beg
  have hwf := wf_deal h1 h6
  have HM := hid_q hm
  have HL := hid_q h
  cases hb : (q.began t).isSome with
  | true =>
    have HQ : Hid (begQ q t = q) := by show begQ q t = q; unfold begQ; rw [if_pos hb]
    have HB : Hid ((begM q.began t).isSome = true) := by show (begM q.began t).isSome = true; rw [begM_some]; exact hb
    obtain ⟨u, hu⟩ : ∃ u : Nat, (begM q.began t).getD (.int .i64 0) = .int .i64 (u : Int) := by
      obtain ⟨n, hn⟩ := Option.isSome_iff_exists.1 hb
      exact ⟨n, by unfold begM; rw [hn]; rfl⟩
    have HU := hid_q hu
    clear h hm h1 h6 hb hu c2
    go_enter Try.func74, Try.ntmps74
    go_wp2_with (at_lookup; refine wp_look _ rfl (.tmp 10) (.tmp 11) 71 true rfl 3 Try.underlying71 (.int .i64 0) (zero_intQ _) c.B m (begM q.began) rfl HM.out t rfl hwf (.int .i64 (u : Int)) true HU.out HB.out ?_)
    go_end0
    exact ⟨rfl, by rw [HQ.out]; exact HL.out, Turns.refl _ _⟩
  | false =>
    have HQ : Hid (begQ q t = { q with began := setF q.began t (some q.done.length) }) := by show begQ q t = _; unfold begQ; rw [if_neg (by rw [hb]; decide)]
    have HB : Hid ((begM q.began t).isSome = false) := by show (begM q.began t).isSome = false; rw [begM_some]; exact hb
    have HU : Hid ((begM q.began t).getD (.int .i64 0) = .int .i64 0) := by
      show _ = _
      have : q.began t = none := by simpa using hb
      unfold begM; rw [this]; rfl
    obtain ⟨ad, cap, e1, -⟩ := own_slice3 h.done
    rw [e1] at c2
    obtain ⟨N, hN⟩ : ∃ N, q.done.length = N := ⟨_, rfl⟩
    rw [hN] at c2 HQ
    obtain ⟨X, hup, hmX, htX⟩ := (MapIs.drew hm).store (v := .int .i64 (N : Int)) Try.underlying71 h1 h6
    have htX' : Turns (fun k => k = c.B) w X := ⟨htX.os, htX.tape, htX.output, htX.size, htX.block⟩
    have HX : Hid (CrsAt w0 X R S F (begQ q t) c ∧ Turns (fun k => k = c.B) w X) := by
      refine ⟨?_, htX'⟩
      rw [HQ.out]
      rw [← begM_set] at hmX
      exact h.setBeg hmX htX'
    have x2 : X.cell? ⟨R, 2, none⟩ = some (.slice ad N cap) := (HX.out.2.cell (p := ⟨R, 2, none⟩) h.lt (fun e => h.apart 0 2 R (by omega) (by omega) (by decide) rfl e)).trans c2
    have x3 : X.cell? ⟨R, 3, none⟩ = some (.map (some c.B)) := (HX.out.2.cell (p := ⟨R, 3, none⟩) h.lt (fun e => h.apart 0 2 R (by omega) (by omega) (by decide) rfl e)).trans c3
    clear h hm h1 h6 hb e1 hN hmX htX htX'
    go_enter Try.func74, Try.ntmps74
    go_wp2_with (at_lookup; refine wp_look _ rfl (.tmp 10) (.tmp 11) 71 true rfl 3 Try.underlying71 (.int .i64 0) (zero_intQ _) c.B m (begM q.began) rfl HM.out t rfl hwf (.int .i64 0) false HU.out HB.out ?_)
    go_region_held3 (fun w' => w'.cell? ⟨R, 2, none⟩ = some (.slice ad N cap) ∧ w'.cell? ⟨R, 3, none⟩ = some (.map (some c.B))) (first | exact ⟨c2, c3⟩ | exact ⟨x2, x3⟩) (fail)
    all_goals
      go_wp2_with fail
      go_end0
      exact ⟨rfl, HX.out⟩
/-- An op in a box beside the run. -/
structure CrsBox (w : World) (P : Nat) (t a i : Int) : Prop where
  p0 : w.cell? ⟨P, 0, none⟩ = some (.int .i64 t)
  p1 : w.cell? ⟨P, 1, none⟩ = some (.int .i64 a)
  p2 : w.cell? ⟨P, 2, none⟩ = some (.int .i64 i)
theorem CrsBox.lt {w : World} {P : Nat} {t a i : Int} (h : CrsBox w P t a i) : P < w.heap.size := World.block_lt_of_cell? w _ h.p0
theorem CrsBox.turn {G : Nat → Prop} {w w1 : World} {P : Nat} {t a i : Int} (h : CrsBox w P t a i) (ht : Turns G w w1) (hP : ¬ G P) : CrsBox w1 P t a i :=
  ⟨(ht.cell (p := ⟨P, 0, none⟩) h.lt hP).trans h.p0, (ht.cell (p := ⟨P, 1, none⟩) h.lt hP).trans h.p1, (ht.cell (p := ⟨P, 2, none⟩) h.lt hP).trans h.p2⟩
theorem CrsBox.below {w w1 : World} {P : Nat} {t a i : Int} (h : CrsBox w P t a i) (hb : Below w.heap.size w w1) : CrsBox w1 P t a i := h.turn (Turns.of_below (F := fun _ => False) hb) fun hf => hf
theorem crsBox_new (w : World) (t a i : Int) (T : TypeId) : CrsBox (w.alloc (.cells #[.int .i64 t, .int .i64 a, .int .i64 i] T)) w.heap.size t a i := ⟨by simp, by simp, by simp⟩
set_option maxHeartbeats 8000000 in
set_option maxRecDepth 100000 in
theorem source_crs {NS : Nat} {seesF : Crs → Int → Int → Int} (hcall : RuleFn NS) (hS : SeesC NS seesF) {w0 w : World} {R : Nat} {F : Value} {q : Crs} {c : CLay} (h : CrsAt w0 w R (.func (.func NS) #[] #[]) F q c) (hq : CrsOk 1000 q) {t : Int} (a i : Int) (h1 : 1 ≤ t) (h6 : t ≤ 6) (hb : (q.began t).isSome = true) :
    Calls Try.prog 75 #[.pointer (some ⟨R, 0, none⟩), .agg #[.int .i64 t, .int .i64 a, .int .i64 i]] w fun e w' => e = .returned (.int .i64 (srcQ seesF q t i)) ∧ Below w.heap.size w w' := by
  have HL := hid_q h
  have HQ := hid_q hq
  have HS : Hid (∀ W, Below w.heap.size w W → Calls Try.prog NS #[.pointer (some ⟨R, 0, none⟩), .int .i64 t, .int .i64 i] W fun e w' => e = .returned (.int .i64 (seesF q t i)) ∧ Below W.heap.size W w') := fun W hW => hS w0 W R _ F q c t i (h.below hW) hq h1 h6 hb
  have HW : Hid (∀ W, Below w.heap.size w W → Calls Try.prog 51 #[.pointer (some ⟨R, 0, none⟩), .int .i64 t, .int .i64 i] W fun e w' => e = .returned (.bool (inB (q.wrote t) i)) ∧ w' = W) := fun W hW => wrote_crs (h.below hW) h1 h6 i (hq.lenW t)
  have HK : Hid (∀ W, Below w.heap.size w W → W.cell? ⟨R, 0, none⟩ = some (.func (.func NS) #[] #[])) := fun W hW => (h.below hW).c0
  obtain ⟨r, hr⟩ : ∃ r, srcQ seesF q t i = r := ⟨_, rfl⟩
  rw [hr]
  have HR := hid_q hr
  clear h hq hS hb h1 h6 hr
  go_enter Try.func75, Try.ntmps75
  go_upto_region 1 with (fail)
  obtain ⟨W, hW⟩ : ∃ W, W = w.alloc (.cells #[.int .i64 t, .int .i64 a, .int .i64 i] 24) := ⟨_, rfl⟩
  rw [← hW]
  have hbx : CrsBox W w.heap.size t a i := by rw [hW]; exact crsBox_new _ _ _ _ _
  have HB : Hid (Below w.heap.size w W) := by show Below _ _ _; rw [hW]; exact (Below.refl _ w).alloc (Nat.le_refl _) _
  obtain ⟨P, hP⟩ : ∃ P, P = w.heap.size := ⟨_, rfl⟩
  rw [← hP] at hbx ⊢
  obtain ⟨p0, p1, p2⟩ := hbx
  have hPW := World.block_lt_of_cell? W _ p0
  simp only at hPW
  have k0 := HK.out W HB.out
  have HWW := hid_q (HW.out W HB.out)
  have hRW := World.block_lt_of_cell? W _ k0
  simp only at hRW
  clear hW hP
  cases hin : inB (q.wrote t) i with
  | true =>
    have HIN := hid_q hin
    rw [hin] at HWW
    clear hin
    go_wp2_with fail
    refine HWW.out.mono ?_
    rintro e w1 ⟨rfl, hw1⟩
    rw [hw1]
    clear hw1
    go_wp2_with fail
    go_ret
    exact ⟨by rw [← HR.out, srcQ, if_pos HIN.out]; rfl, HB.out⟩
  | false =>
    have HIN := hid_q hin
    rw [hin] at HWW
    clear hin
    obtain ⟨B, hA1, hA2⟩ : ∃ B, B ≤ W.heap.size ∧ W.heap.size ≤ B := ⟨_, Nat.le_refl _, Nat.le_refl _⟩
    have hne : Nonempty (Later B W) := ⟨⟨W, Below.refl _ _⟩⟩
    have g0 : ∀ y : Later B W, y.W.cell? ⟨P, 0, none⟩ = some (.int .i64 t) := fun y => (y.h.cell (p := ⟨P, 0, none⟩) (by show P < B; omega)).trans p0
    have g2 : ∀ y : Later B W, y.W.cell? ⟨P, 2, none⟩ = some (.int .i64 i) := fun y => (y.h.cell (p := ⟨P, 2, none⟩) (by show P < B; omega)).trans p2
    have gR : ∀ y : Later B W, y.W.cell? ⟨R, 0, none⟩ = some (.func (.func NS) #[] #[]) := fun y => (y.h.cell (p := ⟨R, 0, none⟩) (by show R < B; omega)).trans k0
    have HCQ : Hid (∀ y : Later B W, Calls Try.prog NS #[.pointer (some ⟨R, 0, none⟩), .int .i64 t, .int .i64 i] y.W fun e w' => e = .returned (.int .i64 (seesF q t i)) ∧ ∃ z : Later B W, w' = z.W) := fun y => Later.at y hA1 (HS.out y.W (HB.out.trans (y.h.mono (by have := HB.out.size; omega))))
    go_wp2_with fail
    refine HWW.out.mono ?_
    rintro e w1 ⟨rfl, hw1⟩
    rw [hw1]
    clear hw1 p0 p1 p2 k0
    go_wp2_with fail
    refine region_later B (by kernel_rfl) (by kernel_rfl) ?_
    repeat (first | go_big_quiet_skip | (go_big_quiet_want; go_big_quiet_op; first | go_big_quiet_on | (refine ⟨_, fun y => HCQ.out y, ?_⟩; go_big_quiet_on)))
    refine wpQuiet_nil ?_
    intro V hV
    obtain ⟨y, rfl⟩ := hV
    have HBY : Hid (Below w.heap.size w y.W) := HB.out.trans (y.h.mono (by have := HB.out.size; omega))
    go_wp2_with fail
    go_ret
    exact ⟨by rw [← HR.out, srcQ, if_neg (by rw [HIN.out]; decide)]; rfl, HBY.out⟩
end Go.Proofs.Ytccjognnehoodag
