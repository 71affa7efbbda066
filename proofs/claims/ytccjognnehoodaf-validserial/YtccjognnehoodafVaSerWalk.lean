/-
  PROVED HERE: lanelaw2.ValidSerial answers true, of any ops, over whatever keeps RunsC of chapter 11.
  Conditions: RunsC.
-/
import Derived.Test.YtccjognnehoodafVaSerPlain
import Derived.Test.YtccjognnehoodafKindBy
namespace Go.Proofs.Ytccjognnehoodaf
open Go.RowKit

def four1 : List Op3 := [(1, 1, 1), (2, 2, 1), (2, 3, 0), (1, 3, 0)]
theorem four_at (W : World) : IsOps (W.alloc (.cells #[.int .i64 1, .int .i64 1, .int .i64 1, .int .i64 2, .int .i64 2, .int .i64 1, .int .i64 2, .int .i64 3, .int .i64 0, .int .i64 1, .int .i64 3, .int .i64 0] 24)) (.slice (some ⟨W.heap.size, 0, none⟩) 4 4) four1 := by
  refine ⟨some ⟨W.heap.size, 0, none⟩, W.heap.size, 0, 4, rfl, fun _ => rfl, fun h => (by cases h), .inl (by simp), opsAt_of fun j u hj => ?_⟩
  rw [Nat.zero_add]
  match j, hj with
  | 0, hj => simp [flat, four1] at hj; subst hj; simp
  | 1, hj => simp [flat, four1] at hj; subst hj; simp
  | 2, hj => simp [flat, four1] at hj; subst hj; simp
  | 3, hj => simp [flat, four1] at hj; subst hj; simp
  | 4, hj => simp [flat, four1] at hj; subst hj; simp
  | 5, hj => simp [flat, four1] at hj; subst hj; simp
  | 6, hj => simp [flat, four1] at hj; subst hj; simp
  | 7, hj => simp [flat, four1] at hj; subst hj; simp
  | 8, hj => simp [flat, four1] at hj; subst hj; simp
  | 9, hj => simp [flat, four1] at hj; subst hj; simp
  | 10, hj => simp [flat, four1] at hj; subst hj; simp
  | 11, hj => simp [flat, four1] at hj; subst hj; simp
  | k + 12, hj => simp [flat, four1] at hj
theorem four_done : (outU 1 okV false four1).1.1 = [2] ∧ (outU 1 okV false four1).2 = 0 := by decide
set_option maxHeartbeats 8000000 in
set_option maxRecDepth 100000 in
theorem vaser_any (hV : RunsC 13 1 okV false) (l : List Op3) (v : Value) (w : World) (hI : IsOps w v l) :
    Calls Try.prog 5 #[v] w fun e w' => e = .returned (.bool true) ∧ Below w.heap.size w w' := by
  have HIE : Hid (∀ W, Below w.heap.size w W → IsOps W v l) := fun W hW => hI.below hW (Nat.le_refl _)
  have HRUN : Hid (∀ W, Below w.heap.size w W → Calls Try.prog 13 #[v] W fun e w' => ∃ a1 a2 a3, e = .returned (.tuple #[.agg #[a1, a2, a3], errV (outU 1 okV false l).2]) ∧ IsInts w' a1 (outU 1 okV false l).1.1 ∧ IsOps w' a2 (outU 1 okV false l).1.2.1 ∧ IsInts w' a3 (outU 1 okV false l).1.2.2 ∧ Room a1 ∧ Below W.heap.size W w') := fun W hW => hV l v W (HIE.out W hW)
  have HONE : Hid (∀ W u, IsOps W u four1 → Calls Try.prog 13 #[u] W fun e w' => ∃ g o c a2 a3, e = .returned (.tuple #[.agg #[.slice (some ⟨g, o, none⟩) 1 c, a2, a3], .nilIface]) ∧ w'.cell? ⟨g, o, none⟩ = some (.int .i64 2) ∧ (∃ ad n c, a2 = .slice ad n c) ∧ (∃ ad n c, a3 = .slice ad n c) ∧ Below W.heap.size W w') := fun W u hu => by
    refine (hV four1 u W hu).mono ?_
    rintro e w' ⟨a1, a2, a3, he, hi1, hi2, hi3, -, hb⟩
    rw [four_done.2] at he
    rw [four_done.1] at hi1
    obtain ⟨x1, b1, o1, c1, rfl, h1, -, -, k1⟩ := hi1
    rw [h1 (by simp)] at he
    refine ⟨b1, o1, c1, a2, a3, he, by have := k1 0 (by simp); simpa using this, ?_, ?_, hb⟩
    · obtain ⟨ad, _, _, cap, hv, _⟩ := hi2; exact ⟨ad, _, cap, hv⟩
    · obtain ⟨ad, _, _, cap, hv, _⟩ := hi3; exact ⟨ad, _, cap, hv⟩
  have HST : Hid (∀ W W', Below w.heap.size w W → Below W.heap.size W W' → Below w.heap.size w W') := fun W W' h1 h2 => h1.trans (h2.mono h1.size)
  obtain ⟨ad, b, off, cap, hv, -⟩ := hI
  subst hv
  clear hV
  go_enter Try.func5, Try.ntmps5
  go_wp2_with fail
  have HB1 : Hid (Below w.heap.size w (w.alloc (.cells #[.int .i64 1, .int .i64 1, .int .i64 1, .int .i64 2, .int .i64 2, .int .i64 1, .int .i64 2, .int .i64 3, .int .i64 0, .int .i64 1, .int .i64 3, .int .i64 0] 24))) := (Below.refl _ w).alloc (Nat.le_refl _) _
  refine (HONE.out _ _ (four_at w)).mono ?_
  rintro e w2 ⟨g, o, c, a2, a3, rfl, k1, ⟨x2, y2, z2, rfl⟩, ⟨x3, y3, z3, rfl⟩, hb2⟩
  have HB2 := hid_s (HST.out _ _ HB1.out hb2)
  clear hb2 HB1
  go_upto_region 3 with (fail)
  obtain ⟨W2, hW2⟩ : ∃ W, W = w2.alloc (.cells #[.slice (some ⟨g, o, none⟩) 1 c, .slice x2 y2 z2, .slice x3 y3 z3] 46) := ⟨_, rfl⟩
  rw [← hW2]
  have hbn : Below w2.heap.size w2 W2 := by rw [hW2]; exact (Below.refl _ w2).alloc (Nat.le_refl _) _
  have HB3 := hid_s (HST.out _ _ HB2.out hbn)
  have p0 : W2.cell? ⟨w2.heap.size, 0, none⟩ = some (.slice (some ⟨g, o, none⟩) 1 c) := by rw [hW2]; simp
  have k3 : W2.cell? ⟨g, o, none⟩ = some (.int .i64 2) := (hbn.cell (p := ⟨g, o, none⟩) (World.block_lt_of_cell? w2 _ k1)).trans k1
  obtain ⟨P, hP⟩ : ∃ P, P = w2.heap.size := ⟨_, rfl⟩
  rw [← hP] at p0 ⊢
  clear hW2 hP hbn k1
  go_upto_region 5 with (fail)
  clear p0 k3
  by_cases hc : (chk l).2 = 0
  · have hop := ((chk_iff l).1 hc).2.1
    have hl40 := chk_len hc
    have hul := outU_len 1 okV false l
    have hrt := run_right 1 okV hc
    have hby := valid_by hc
    have hla : (lastL (runK 1 okV l l.length).of (runK 1 okV l l.length).done).length = 6 := lastL_len _ _
    rw [outU_ok hc] at HRUN hul
    have he0 : ordN false (runK 1 okV l l.length).done = (runK 1 okV l l.length).done := rfl
    rw [he0] at HRUN hul
    obtain ⟨ds, hds⟩ : ∃ d, (runK 1 okV l l.length).done = d := ⟨_, rfl⟩
    rw [hds] at HRUN hul hrt hby hla
    obtain ⟨se, hse⟩ : ∃ d, seenL (runK 1 okV l l.length).of ds = d := ⟨_, rfl⟩
    rw [hse] at HRUN hul hby
    obtain ⟨la, hlq⟩ : ∃ d, lastL (runK 1 okV l l.length).of ds = d := ⟨_, rfl⟩
    rw [hlq] at HRUN hul hby hla
    simp only at HRUN hul
    have HRUN2 : Hid (∀ W, Below w.heap.size w W → Calls Try.prog 13 #[.slice ad l.length cap] W fun e w' => ∃ a1 a2 a3, e = .returned (.tuple #[.agg #[a1, a2, a3], .nilIface]) ∧ IsInts w' a1 ds ∧ IsOps w' a2 se ∧ IsInts w' a3 la ∧ Room a1 ∧ Below W.heap.size W w') := HRUN.out
    have HRI : Hid (∀ W a1 a2 a3, Below w.heap.size w W → IsInts W a1 ds → IsOps W a2 se → IsInts W a3 la → Room a1 → Calls Try.prog 14 #[.slice ad l.length cap, .agg #[a1, a2, a3]] W fun e w' => e = .returned (.bool true) ∧ Below W.heap.size W w') := fun W a1 a2 a3 hW h1 h2 h3 hr =>
      right_any l _ a1 a2 a3 ds la W (HIE.out W hW) (by omega) h1 h3 (by obtain ⟨ad, _, _, cap, hv, _⟩ := h2; exact ⟨ad, _, cap, hv⟩) hr hul.1 hla hrt
    have HBY : Hid (∀ W a1 a2 a3, Below w.heap.size w W → IsInts W a1 ds → IsOps W a2 se → IsInts W a3 la → Calls Try.prog 15 #[.slice ad l.length cap, .agg #[a1, a2, a3], a1] W fun e w' => e = .returned (.bool true) ∧ Below W.heap.size W w') := fun W a1 a2 a3 hW h1 h2 h3 =>
      by_any l _ a1 a2 a3 a1 se la ds W (HIE.out W hW) (by obtain ⟨ad, _, _, cap, hv, _⟩ := h1; exact ⟨ad, _, cap, hv⟩) h2 h3 h1 hop hl40 hul.2.1 hul.1 hby
    clear hop hl40 hul hrt hby hla he0 hds hse hlq hc HRUN HONE
    go_wp2_with fail
    refine (HRUN2.out _ HB3.out).mono ?_
    rintro e w5 ⟨a1, a2, a3, rfl, h1, h2, h3, hro, hb5⟩
    have HB5 := hid_s (HST.out _ _ HB3.out hb5)
    have hbn : ∀ ob : Obj, Below w5.heap.size w5 (w5.alloc ob) := fun ob => (Below.refl _ w5).alloc (Nat.le_refl _) ob
    have H5 : Hid (∀ W, Below w5.heap.size w5 W → IsInts W a1 ds ∧ IsOps W a2 se ∧ IsInts W a3 la ∧ Below w.heap.size w W) := fun W hW => ⟨h1.below hW (Nat.le_refl _), h2.below hW (Nat.le_refl _), h3.below hW (Nat.le_refl _), HST.out _ _ HB5.out hW⟩
    obtain ⟨r1, s1, t1, rfl⟩ : ∃ ad n c, a1 = .slice ad n c := by obtain ⟨ad, _, _, cap, hv, _⟩ := h1; exact ⟨ad, _, cap, hv⟩
    obtain ⟨r2, s2, t2, rfl⟩ : ∃ ad n c, a2 = .slice ad n c := by obtain ⟨ad, _, _, cap, hv, _⟩ := h2; exact ⟨ad, _, cap, hv⟩
    obtain ⟨r3, s3, t3, rfl⟩ : ∃ ad n c, a3 = .slice ad n c := by obtain ⟨ad, _, _, cap, hv, _⟩ := h3; exact ⟨ad, _, cap, hv⟩
    have HRO := hid_s hro
    have HBN := hid_s hbn
    clear h1 h2 h3 hro hb5 hbn HRUN2
    go_upto_region 6 with (fail)
    obtain ⟨W6, hW6⟩ : ∃ W, W = w5.alloc (.cells #[.slice r1 s1 t1, .slice r2 s2 t2, .slice r3 s3 t3] 46) := ⟨_, rfl⟩
    rw [← hW6]
    have hb6 : Below w5.heap.size w5 W6 := by rw [hW6]; exact HBN.out _
    have q0 : W6.cell? ⟨w5.heap.size, 0, none⟩ = some (.slice r1 s1 t1) := by rw [hW6]; simp
    have q1 : W6.cell? ⟨w5.heap.size, 1, none⟩ = some (.slice r2 s2 t2) := by rw [hW6]; simp
    have q2 : W6.cell? ⟨w5.heap.size, 2, none⟩ = some (.slice r3 s3 t3) := by rw [hW6]; simp
    obtain ⟨Q, hQ⟩ : ∃ Q, Q = w5.heap.size := ⟨_, rfl⟩
    rw [← hQ] at q0 q1 q2 ⊢
    have H6 := hid_s hb6
    clear hW6 hQ hb6
    go_wp2_with fail
    obtain ⟨i1, i2, i3, i4⟩ := H5.out W6 H6.out
    refine (HRI.out W6 _ _ _ i4 i1 i2 i3 HRO.out).mono ?_
    rintro e w7 ⟨rfl, hb7⟩
    have hq : Q < W6.heap.size := World.block_lt_of_cell? W6 _ q0
    have m0 := (hb7.cell (p := ⟨Q, 0, none⟩) hq).trans q0
    have m1 := (hb7.cell (p := ⟨Q, 1, none⟩) hq).trans q1
    have m2 := (hb7.cell (p := ⟨Q, 2, none⟩) hq).trans q2
    have H7 : Hid (Below w5.heap.size w5 w7) := H6.out.trans (hb7.mono H6.out.size)
    clear hb7 q0 q1 q2 i1 i2 i3 i4
    go_wp2_with fail
    obtain ⟨i1, i2, i3, i4⟩ := H5.out w7 H7.out
    refine (HBY.out w7 _ _ _ i4 i1 i2 i3).mono ?_
    rintro e w8 ⟨rfl, hb8⟩
    have HB8 := hid_s (HST.out _ _ i4 hb8)
    clear hb8 i1 i2 i3 i4
    go_wp2_with fail
    go_ret
    exact ⟨rfl, HB8.out⟩
  · have hev := errV_ne hc
    rw [outU_bad hc] at HRUN
    simp only at HRUN
    rw [hev] at HRUN
    obtain ⟨ce, hce⟩ : ∃ ce, (chk l).2 = ce := ⟨_, rfl⟩
    rw [hce] at HRUN
    clear hev hc hce HONE
    go_wp2_with fail
    refine (HRUN.out _ HB3.out).mono ?_
    rintro e w5 ⟨a1, a2, a3, rfl, h1, h2, h3, hro, hb5⟩
    obtain ⟨r1, s1, t1, rfl⟩ : ∃ ad n c, a1 = .slice ad n c := by obtain ⟨ad, _, _, cap, hv, _⟩ := h1; exact ⟨ad, _, cap, hv⟩
    obtain ⟨r2, s2, t2, rfl⟩ : ∃ ad n c, a2 = .slice ad n c := by obtain ⟨ad, _, _, cap, hv, _⟩ := h2; exact ⟨ad, _, cap, hv⟩
    obtain ⟨r3, s3, t3, rfl⟩ : ∃ ad n c, a3 = .slice ad n c := by obtain ⟨ad, _, _, cap, hv, _⟩ := h3; exact ⟨ad, _, cap, hv⟩
    have HB5 := hid_s (HST.out _ _ HB3.out hb5)
    have HB6 : Hid (∀ ob : Obj, Below w.heap.size w (w5.alloc ob)) := fun ob => HST.out _ _ HB5.out ((Below.refl _ w5).alloc (Nat.le_refl _) ob)
    clear h1 h2 h3 hro hb5
    go_wp2_with fail
    go_ret
    exact ⟨rfl, HB6.out _⟩
end Go.Proofs.Ytccjognnehoodaf
