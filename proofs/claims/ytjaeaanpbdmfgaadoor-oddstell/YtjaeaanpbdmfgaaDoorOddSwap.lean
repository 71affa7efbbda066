/-
  PROVED HERE: slices.Clone at a slice of ops gives the same ops in new memory; odds.Swap gives Check's error, ErrRange where there are not both, ErrClash where both are of one deal or at odds, else the list with the two changed. Old memory stays as it was.
  Conditions: none.
-/
import Derived.Test.YtjaeaanpbdmfgaaDoorOddPair0
import Derived.Test.YtjaeaanpbdmfgaaDoorRegion
import Derived.Lib.SliceRun
namespace Go.Proofs.YtjaeaanpbdmfgaaDoor
open Go.RowKit

set_option maxHeartbeats 2000000 in
set_option maxRecDepth 100000 in
theorem clone_ops (l : List Op3) (b off cap : Nat) (w : World) (hl : l.length ≤ 40) (hops : OpsAt w b off l) :
    Calls Tryd.prog 53 #[.slice (some ⟨b, off, none⟩) l.length cap] w fun e w' => ∃ v', e = .returned v' ∧ w'.ownsRow w.heap.size 50 3 v' l.length (flat l) ∧ v' ≠ .slice none 0 0 ∧ Below w.heap.size w w' := by
  obtain ⟨i0, hi, hz0, hs0, hy0⟩ := info_parts infoOp
  have HI : Hid (Tryd.prog.info? 50 = some i0 ∧ i0.zero = some (.agg #[.int .i64 0, .int .i64 0, .int .i64 0]) ∧ i0.size = 3 ∧ i0.bytes = 24) := ⟨hi, hz0, hs0, hy0⟩
  clear hi hz0 hs0 hy0
  have HS : Hid (∀ j u, (flat l)[j]? = some u → w.cell? ⟨b, off + j, none⟩ = some u) := hops.flat
  clear hops
  have hq : ∀ w, (binOp .eql 22 (.slice (some ⟨b, off, none⟩) l.length cap) (.slice none 0 0)).run Tryd.prog w = .ok (.bool false) w := fun w => Lib.run_eql_slice_nil w _ _ _ _ _ _ _ Tryd.underlying22
  go_enter Tryd.func53, Tryd.ntmps53
  go_wp2_with (at_builtin; refine wpList_append_own _ rfl (.tmp 5) (.tmp 6) 22 rfl w.heap.size 50 i0 (.agg #[.int .i64 0, .int .i64 0, .int .i64 0]) 3 24 Tryd.underlying22 HI.out.1 HI.out.2.1 HI.out.2.2.1 HI.out.2.2.2 rfl (by decide) (.slice (some ⟨w.heap.size, 0, none⟩) 0 0) 0 [] rfl (World.ownsRow_made w #[] 0 (Nat.le_refl _) (Nat.zero_le _) rfl) ⟨b, off, none⟩ l.length cap (flat l) rfl (flat_length l) (fun j u hj => by rw [Addr.add_lit]; have h1 := HS.out j u hj; rw [World.cell?_alloc_lt _ _ _ (World.block_lt_of_cell? w _ h1)]; exact h1) (flat_one l) (by unfold maxLen; omega) (by omega) (by simp) ?_; intro v1 w1 hown1 hgr1 hnil1)
  go_ret
  refine ⟨_, rfl, by simpa using hown1, ?_, ((Below.refl _ w).alloc (Nat.le_refl _) _).grown hgr1 (by simp) (by intro k hk; simp [Value.ownBlock] at hk; omega)⟩
  intro hv
  have := (hnil1.1 hv).1
  simp at this

theorem flat_set (l : List Op3) : ∀ (j : Nat) (o : Op3), flat (l.set j o) = (((flat l).set (j * 3) (.int .i64 o.1)).set (j * 3 + 1) (.int .i64 o.2.1)).set (j * 3 + 2) (.int .i64 o.2.2) := by
  induction l with
  | nil => intro j o; simp [flat]
  | cons a r ih =>
    intro j o
    cases j with
    | zero => simp [flat]
    | succ j =>
      rw [show (j + 1) * 3 = j * 3 + 1 + 1 + 1 by omega]
      simp [flat, ih j o]
/-- Two ops changed. -/
def swapL (l : List Op3) (i : Nat) : List Op3 := (l.set i (opAt l (i + 1))).set (i + 1) (opAt l i)
def swapErr (l : List Op3) (i : Int) : Int :=
  if i < 0 ∨ (l.length : Int) - 1 ≤ i then 1 else if (opAt l i.toNat).1 = (opAt l (i.toNat + 1)).1 ∨ oddB (opAt l i.toNat) (opAt l (i.toNat + 1)) = true then 7 else 0

theorem swap_bad (l : List Op3) (v : Value) (i : Int) (w : World) (h : IsOps w v l) (hc : (chk l).2 ≠ 0) :
    Calls Tryd.prog 31 #[v, .int .i64 i] w fun e w' => e = .returned (.tuple #[.slice none 0 0, .iface 67 (.int .i64 (chk l).2)]) ∧ Below w.heap.size w w' := by
  go_enter Tryd.func31, Tryd.ntmps31
  go_wp2_with (go_at_call 9; refine (check_bad l _ _ h hc).mono ?_; rintro e w1 ⟨rfl, hb1⟩)
  go_ret2
  exact ⟨rfl, hb1⟩
set_option maxHeartbeats 2000000 in
theorem swap_range (l : List Op3) (v : Value) (i : Int) (w : World) (h : IsOps w v l) (hc : (chk l).2 = 0) (hi : i < 0 ∨ (l.length : Int) - 1 ≤ i) :
    Calls Tryd.prog 31 #[v, .int .i64 i] w fun e w' => e = .returned (.tuple #[.slice none 0 0, .iface 67 (.int .i64 1)]) ∧ Below w.heap.size w w' := by
  have hl := chk_len hc
  have HIo : Hid (IsOps w v l) := h
  obtain ⟨ad, b, off, cap, rfl, ha, _, hbB, hops⟩ := h
  clear ha hbB hops
  by_cases h0 : i < 0
  · clear hi
    go_enter Tryd.func31, Tryd.ntmps31
    go_wp2_with (go_at_call 9; refine (check_ok l _ _ HIo.out hc).mono ?_; rintro e w1 ⟨rfl, hb1⟩)
    go_ret2
    exact ⟨rfl, hb1⟩
  · have h1 : (l.length : Int) - 1 ≤ i := by omega
    clear hi
    go_enter Tryd.func31, Tryd.ntmps31
    go_wp2_with (go_at_call 9; refine (check_ok l _ _ HIo.out hc).mono ?_; rintro e w1 ⟨rfl, hb1⟩)
    go_ret2
    exact ⟨rfl, hb1⟩
set_option maxHeartbeats 4000000 in
set_option maxRecDepth 100000 in
theorem swap_clash (l : List Op3) (v : Value) (i : Nat) (w : World) (h : IsOps w v l) (hc : (chk l).2 = 0) (hi : i + 1 < l.length) (hcl : (opAt l i).1 = (opAt l (i + 1)).1 ∨ oddB (opAt l i) (opAt l (i + 1)) = true) :
    Calls Tryd.prog 31 #[v, .int .i64 i] w fun e w' => e = .returned (.tuple #[.slice none 0 0, .iface 67 (.int .i64 7)]) ∧ Below w.heap.size w w' := by
  have hl := chk_len hc
  have HIo : Hid (IsOps w v l) := h
  obtain ⟨ad, b, off, cap, rfl, ha, _, hbB, hops⟩ := h
  obtain rfl := ha (by omega)
  have hb1 : b < w.heap.size := by
    rcases hbB with h | h
    · exact h
    · subst h; simp at hi
  obtain ⟨c0, c1, c2⟩ := hops i (by omega)
  obtain ⟨d0, d1, d2⟩ := hops (i + 1) hi
  obtain ⟨⟨t, a, x⟩, ho⟩ : ∃ o : Op3, opAt l i = o := ⟨_, rfl⟩
  obtain ⟨⟨t2, a2, x2⟩, ho2⟩ : ∃ o : Op3, opAt l (i + 1) = o := ⟨_, rfl⟩
  rw [ho, ho2] at hcl
  unfold opAt at ho ho2
  rw [ho] at c0 c1 c2
  rw [ho2] at d0 d1 d2
  simp only at c0 c1 c2 d0 d1 d2 hcl
  clear ho ho2 ha hbB hops
  go_enter Tryd.func31, Tryd.ntmps31
  go_wp2_with fail
  refine (check_ok l _ _ HIo.out hc).mono ?_
  rintro e w1 ⟨rfl, hbe⟩
  rw [← hbe.cell (p := ⟨b, off + i * 3, none⟩) hb1] at c0
  rw [← hbe.cell (p := ⟨b, off + i * 3 + 1, none⟩) hb1] at c1
  rw [← hbe.cell (p := ⟨b, off + i * 3 + 2, none⟩) hb1] at c2
  rw [← hbe.cell (p := ⟨b, off + (i + 1) * 3, none⟩) hb1] at d0
  rw [← hbe.cell (p := ⟨b, off + (i + 1) * 3 + 1, none⟩) hb1] at d1
  rw [← hbe.cell (p := ⟨b, off + (i + 1) * 3 + 2, none⟩) hb1] at d2
  have hsz := hbe.size
  by_cases hq : t = t2
  · subst hq
    clear hcl
    go_wp2_with fail
    go_quiet (fail)
    go_wp2
    go_ret2
    exact ⟨rfl, below_drewN hbe _⟩
  · have hq2 : oddB (t, a, x) (t2, a2, x2) = true := by
      rcases hcl with h | h
      · exact absurd h hq
      · exact h
    have hq' : (t == t2) = false := by simpa using hq
    clear hcl hq
    obtain ⟨B, hB1, hB2⟩ : ∃ B, B ≤ w1.heap.size ∧ w1.heap.size ≤ B := ⟨_, Nat.le_refl _, Nat.le_refl _⟩
    have hne : Nonempty (Later B w1) := ⟨⟨w1, Below.refl _ _⟩⟩
    have e0 : ∀ x : Later B w1, x.W.cell? ⟨b, off + i * 3, none⟩ = some (.int .i64 t) := fun x => (x.h.cell (p := ⟨b, off + i * 3, none⟩) (by simp; omega)).trans c0
    have e1 : ∀ x : Later B w1, x.W.cell? ⟨b, off + i * 3 + 1, none⟩ = some (.int .i64 a) := fun x => (x.h.cell (p := ⟨b, off + i * 3 + 1, none⟩) (by simp; omega)).trans c1
    have e2 : ∀ y : Later B w1, y.W.cell? ⟨b, off + i * 3 + 2, none⟩ = some (.int .i64 x) := fun y => (y.h.cell (p := ⟨b, off + i * 3 + 2, none⟩) (by simp; omega)).trans c2
    have g0 : ∀ x : Later B w1, x.W.cell? ⟨b, off + (i + 1) * 3, none⟩ = some (.int .i64 t2) := fun x => (x.h.cell (p := ⟨b, off + (i + 1) * 3, none⟩) (by simp; omega)).trans d0
    have g1 : ∀ x : Later B w1, x.W.cell? ⟨b, off + (i + 1) * 3 + 1, none⟩ = some (.int .i64 a2) := fun x => (x.h.cell (p := ⟨b, off + (i + 1) * 3 + 1, none⟩) (by simp; omega)).trans d1
    have g2 : ∀ y : Later B w1, y.W.cell? ⟨b, off + (i + 1) * 3 + 2, none⟩ = some (.int .i64 x2) := fun y => (y.h.cell (p := ⟨b, off + (i + 1) * 3 + 2, none⟩) (by simp; omega)).trans d2
    have hodd : ∀ y : Later B w1, Calls Tryd.prog 52 #[.agg #[.int .i64 t, .int .i64 a, .int .i64 x], .agg #[.int .i64 t2, .int .i64 a2, .int .i64 x2]] y.W fun e w' => e = .returned (.bool true) ∧ ∃ z : Later B w1, w' = z.W := fun y => Later.at y hB1 (hq2 ▸ odd_below t a x t2 a2 x2 y.W)
    clear c0 c1 c2 d0 d1 d2
    have HODD : Hid (∀ y : Later B w1, Calls Tryd.prog 52 #[.agg #[.int .i64 t, .int .i64 a, .int .i64 x], .agg #[.int .i64 t2, .int .i64 a2, .int .i64 x2]] y.W fun e w' => e = .returned (.bool true) ∧ ∃ z : Later B w1, w' = z.W) := hodd
    clear hodd
    go_wp2_with fail
    refine region_later B (by kernel_rfl) (by kernel_rfl) ?_
    repeat (first | go_big_quiet_skip | (go_big_quiet_want; go_big_quiet_op; first | go_big_quiet_on | (refine ⟨_, fun y => HODD.out y, ?_⟩; go_big_quiet_on)))
    refine wpQuiet_nil ?_
    intro W hW
    obtain ⟨y, rfl⟩ := hW
    go_wp2
    go_ret2
    exact ⟨rfl, hbe.trans (y.h.mono (by omega))⟩
set_option maxHeartbeats 4000000 in
set_option maxRecDepth 100000 in
theorem swap_ok (l : List Op3) (v : Value) (i : Nat) (w : World) (h : IsOps w v l) (hc : (chk l).2 = 0) (hi : i + 1 < l.length) (hcl : (opAt l i).1 ≠ (opAt l (i + 1)).1) (hod : oddB (opAt l i) (opAt l (i + 1)) = false) :
    Calls Tryd.prog 31 #[v, .int .i64 i] w fun e w' => ∃ v', e = .returned (.tuple #[v', .nilIface]) ∧ IsOps w' v' (swapL l i) ∧ Below w.heap.size w w' := by
  have hl := chk_len hc
  have HIo : Hid (IsOps w v l) := h
  obtain ⟨ad, b, off, cap, rfl, ha, _, hbB, hops⟩ := h
  obtain rfl := ha (by omega)
  have hb1 : b < w.heap.size := by
    rcases hbB with h | h
    · exact h
    · subst h; simp at hi
  have HO : Hid (OpsAt w b off l) := hops
  obtain ⟨⟨t, a, x⟩, ho⟩ : ∃ o : Op3, opAt l i = o := ⟨_, rfl⟩
  obtain ⟨⟨t2, a2, x2⟩, ho2⟩ : ∃ o : Op3, opAt l (i + 1) = o := ⟨_, rfl⟩
  have HP : Hid (opAt l i = (t, a, x) ∧ opAt l (i + 1) = (t2, a2, x2)) := ⟨ho, ho2⟩
  rw [ho, ho2] at hcl hod
  simp only at hcl
  have hq' : (t == t2) = false := by simpa using hcl
  clear ho ho2 ha hbB hops hcl
  go_enter Tryd.func31, Tryd.ntmps31
  go_wp2_with fail
  refine (check_ok l _ _ HIo.out hc).mono ?_
  rintro e w1 ⟨rfl, hbe⟩
  obtain ⟨c0, c1, c2⟩ := (HO.out.below hbe (.inl hb1)) i (by omega)
  obtain ⟨d0, d1, d2⟩ := (HO.out.below hbe (.inl hb1)) (i + 1) hi
  rw [show l.getD i (0, 0, 0) = (t, a, x) from HP.out.1] at c0 c1 c2
  rw [show l.getD (i + 1) (0, 0, 0) = (t2, a2, x2) from HP.out.2] at d0 d1 d2
  simp only at c0 c1 c2 d0 d1 d2
  have hsz := hbe.size
  obtain ⟨B, hB1, hB2⟩ : ∃ B, B ≤ w1.heap.size ∧ w1.heap.size ≤ B := ⟨_, Nat.le_refl _, Nat.le_refl _⟩
  have hne : Nonempty (Later B w1) := ⟨⟨w1, Below.refl _ _⟩⟩
  have e0 : ∀ x : Later B w1, x.W.cell? ⟨b, off + i * 3, none⟩ = some (.int .i64 t) := fun x => (x.h.cell (p := ⟨b, off + i * 3, none⟩) (by simp; omega)).trans c0
  have e1 : ∀ x : Later B w1, x.W.cell? ⟨b, off + i * 3 + 1, none⟩ = some (.int .i64 a) := fun x => (x.h.cell (p := ⟨b, off + i * 3 + 1, none⟩) (by simp; omega)).trans c1
  have e2 : ∀ y : Later B w1, y.W.cell? ⟨b, off + i * 3 + 2, none⟩ = some (.int .i64 x) := fun y => (y.h.cell (p := ⟨b, off + i * 3 + 2, none⟩) (by simp; omega)).trans c2
  have g0 : ∀ x : Later B w1, x.W.cell? ⟨b, off + (i + 1) * 3, none⟩ = some (.int .i64 t2) := fun x => (x.h.cell (p := ⟨b, off + (i + 1) * 3, none⟩) (by simp; omega)).trans d0
  have g1 : ∀ x : Later B w1, x.W.cell? ⟨b, off + (i + 1) * 3 + 1, none⟩ = some (.int .i64 a2) := fun x => (x.h.cell (p := ⟨b, off + (i + 1) * 3 + 1, none⟩) (by simp; omega)).trans d1
  have g2 : ∀ y : Later B w1, y.W.cell? ⟨b, off + (i + 1) * 3 + 2, none⟩ = some (.int .i64 x2) := fun y => (y.h.cell (p := ⟨b, off + (i + 1) * 3 + 2, none⟩) (by simp; omega)).trans d2
  have hodd : ∀ y : Later B w1, Calls Tryd.prog 52 #[.agg #[.int .i64 t, .int .i64 a, .int .i64 x], .agg #[.int .i64 t2, .int .i64 a2, .int .i64 x2]] y.W fun e w' => e = .returned (.bool false) ∧ ∃ z : Later B w1, w' = z.W := fun y => Later.at y hB1 (hod ▸ odd_below t a x t2 a2 x2 y.W)
  have HODD : Hid (∀ y : Later B w1, Calls Tryd.prog 52 #[.agg #[.int .i64 t, .int .i64 a, .int .i64 x], .agg #[.int .i64 t2, .int .i64 a2, .int .i64 x2]] y.W fun e w' => e = .returned (.bool false) ∧ ∃ z : Later B w1, w' = z.W) := hodd
  clear c0 c1 c2 d0 d1 d2 hodd
  go_wp2_with fail
  refine region_later B (by kernel_rfl) (by kernel_rfl) ?_
  repeat (first | go_big_quiet_skip | (go_big_quiet_want; go_big_quiet_op; first | go_big_quiet_on | (refine ⟨_, fun y => HODD.out y, ?_⟩; go_big_quiet_on)))
  refine wpQuiet_nil ?_
  intro W hW
  obtain ⟨y, rfl⟩ := hW
  obtain ⟨w2, hw2⟩ : ∃ w2, w2 = y.W := ⟨_, rfl⟩
  have hb2 : Below w.heap.size w w2 := by rw [hw2]; exact hbe.trans (y.h.mono (by omega))
  have k0 := e0 y
  have k1 := e1 y
  have k2 := e2 y
  have m0 := g0 y
  have m1 := g1 y
  have m2 := g2 y
  rw [← hw2] at k0 k1 k2 m0 m1 m2 ⊢
  clear hw2 e0 e1 e2 g0 g1 g2 HODD hne hB1 hB2 y hbe
  have hs2 := hb2.size
  go_wp2_with fail
  refine (clone_ops l b off cap w2 hl (HO.out.below hb2 (.inl hb1))).mono ?_
  rintro e w3 ⟨v3, rfl, hown3, hnn3, hb3⟩
  obtain ⟨g, cap3, rfl, hgb⟩ : ∃ g c, v3 = .slice (some ⟨g, 0, none⟩) l.length c ∧ w2.heap.size ≤ g := by
    have h' := hown3
    obtain ⟨_, ⟨hv, _⟩ | ⟨g, cap, cur, hv, hb, _⟩⟩ := h'
    · exact absurd hv hnn3
    · exact ⟨g, cap, hv, hb⟩
  clear hnn3
  have hgl := (hown3.lt g rfl).2
  rw [← hb3.cell (p := ⟨b, off + i * 3, none⟩) (by simp; omega)] at k0
  rw [← hb3.cell (p := ⟨b, off + i * 3 + 1, none⟩) (by simp; omega)] at k1
  rw [← hb3.cell (p := ⟨b, off + i * 3 + 2, none⟩) (by simp; omega)] at k2
  rw [← hb3.cell (p := ⟨b, off + (i + 1) * 3, none⟩) (by simp; omega)] at m0
  rw [← hb3.cell (p := ⟨b, off + (i + 1) * 3 + 1, none⟩) (by simp; omega)] at m1
  rw [← hb3.cell (p := ⟨b, off + (i + 1) * 3 + 2, none⟩) (by simp; omega)] at m2
  have HOWN : Hid (w3.ownsRow w2.heap.size 50 3 (.slice (some ⟨g, 0, none⟩) l.length cap3) l.length (flat l)) := hown3
  have hat : OpsAt w3 g 0 l := opsAt_of fun j u hj => by
    have := hown3.cells (g := g) rfl j u hj
    rw [Addr.add_lit] at this
    exact this
  obtain ⟨n0, n1, n2⟩ := hat i (by omega)
  obtain ⟨p0, p1, p2⟩ := hat (i + 1) hi
  have z0 := hown3.frozenAt (i * 3)
  have z1 := hown3.frozenAt (i * 3 + 1)
  have z2 := hown3.frozenAt (i * 3 + 2)
  have y0 := hown3.frozenAt ((i + 1) * 3)
  have y1 := hown3.frozenAt ((i + 1) * 3 + 1)
  have y2 := hown3.frozenAt ((i + 1) * 3 + 2)
  rw [Nat.zero_add] at n0 n1 n2 p0 p1 p2
  clear hat hown3
  go_wp2_with fail
  go_region
  all_goals
    go_wp2
    go_ret2
    have hown6 := ((((((HOWN.out.stored (i * 3) (.int .i64 t2)).1.stored (i * 3 + 1) (.int .i64 a2)).1.stored (i * 3 + 2) (.int .i64 x2)).1.stored ((i + 1) * 3) (.int .i64 t)).1.stored ((i + 1) * 3 + 1) (.int .i64 a)).1.stored ((i + 1) * 3 + 2) (.int .i64 x)).1
    refine ⟨_, rfl, isOps_own (base := w2.heap.size) (e := 50) (n := l.length) (v := .slice (some ⟨g, 0, none⟩) l.length cap3) (l := swapL l i) ?_ ?_, ?_⟩
    · unfold swapL
      rw [HP.out.1, HP.out.2, flat_set, flat_set]
      exact hown6.drew
    · simp [swapL]
    · have hg : w.heap.size ≤ g := by omega
      exact (((((((hb2.trans (hb3.mono hs2)).setCell (by exact hg) _).setCell (by exact hg) _).setCell (by exact hg) _).setCell (by exact hg) _).setCell (by exact hg) _).setCell (by exact hg) _).drew
end Go.Proofs.YtjaeaanpbdmfgaaDoor
