/-
  PROVED HERE: slices.Clone at a slice of ops gives the same ops in new memory.
  Conditions: there are at most 40.
  PROVED HERE: mix.Nth gives any one of the orders, in new memory; ErrRange where there are not so many; of what is wrong it gives the error. Old memory stays as it was.
  Conditions: none.
-/
import Derived.Test.YtmjjiehnjghndaaGreatMgad
import Derived.Test.YtmjjiehnjghndaaGreatMgan
import Derived.Lib.SliceRun
import Derived.Test.YtmjjiehnjghndaaGreatMgbj
namespace Go.Proofs.YtmjjiehnjghndaaGreat
open Go.RowKit

set_option maxHeartbeats 2000000 in
set_option maxRecDepth 100000 in
theorem clone_ops (l : List Op3) (b off cap : Nat) (w : World) (hl : l.length ≤ 40) (hops : OpsAt w b off l) :
    Calls Tryz.prog 15 #[.slice (some ⟨b, off, none⟩) l.length cap] w fun e w' => ∃ v', e = .returned v' ∧ w'.ownsRow w.heap.size 38 3 v' l.length (flat l) ∧ v' ≠ .slice none 0 0 ∧ Below w.heap.size w w' := by
  obtain ⟨i0, hi, hz0, hs0, hy0⟩ := info_parts infoOp
  have HI : Hid (Tryz.prog.info? 38 = some i0 ∧ i0.zero = some (.agg #[.int .i64 0, .int .i64 0, .int .i64 0]) ∧ i0.size = 3 ∧ i0.bytes = 24) := ⟨hi, hz0, hs0, hy0⟩
  clear hi hz0 hs0 hy0
  have HS : Hid (∀ j u, (flat l)[j]? = some u → w.cell? ⟨b, off + j, none⟩ = some u) := hops.flat
  clear hops
  have hq : ∀ w, (binOp .eql 22 (.slice (some ⟨b, off, none⟩) l.length cap) (.slice none 0 0)).run Tryz.prog w = .ok (.bool false) w := fun w => Lib.run_eql_slice_nil w _ _ _ _ _ _ _ Tryz.underlying22
  go_enter Tryz.func15, Tryz.ntmps15
  go_wp2_with (at_builtin; refine wpList_append_own _ rfl (.tmp 5) (.tmp 6) 22 rfl w.heap.size 38 i0 (.agg #[.int .i64 0, .int .i64 0, .int .i64 0]) 3 24 Tryz.underlying22 HI.out.1 HI.out.2.1 HI.out.2.2.1 HI.out.2.2.2 rfl (by decide) (.slice (some ⟨w.heap.size, 0, none⟩) 0 0) 0 [] rfl (World.ownsRow_made w #[] 0 (Nat.le_refl _) (Nat.zero_le _) rfl) ⟨b, off, none⟩ l.length cap (flat l) rfl (flat_length l) (fun j u hj => by rw [Addr.add_lit]; have h1 := HS.out j u hj; rw [World.cell?_alloc_lt _ _ _ (World.block_lt_of_cell? w _ h1)]; exact h1) (flat_one l) (by unfold maxLen; omega) (by omega) (by simp) ?_; intro v1 w1 hown1 hgr1 hnil1)
  go_ret
  refine ⟨_, rfl, by simpa using hown1, ?_, ((Below.refl _ w).alloc (Nat.le_refl _) _).grown hgr1 (by simp) (by intro k hk; simp [Value.ownBlock] at hk; omega)⟩
  intro hv
  have := (hnil1.1 hv).1
  simp at this
end Go.Proofs.YtmjjiehnjghndaaGreat

namespace Go.Proofs.YtmjjiehnjghndaaGreat
open Go.RowKit

def nthSt (k : Int) : Nat × Option (List Op3) → List Op3 → (Nat × Option (List Op3)) × Bool := fun s x =>
  ((s.1 + 1, if IntKind.i64.wrap (s.1 : Int) = k then some x else s.2), (if IntKind.i64.wrap (s.1 : Int) = k then some x else s.2).isNone)
theorem goO_nth (k : Int) : ∀ (l : List (List Op3)) (a : Nat), a + l.length ≤ 4611686018427387904 →
    goO (nthSt k) l (a, none) = if (a : Int) ≤ k ∧ k < (a : Int) + l.length then ((k.toNat + 1, some (l.getD (k.toNat - a) [])), false) else ((a + l.length, none), true) := by
  intro l
  induction l with
  | nil => intro a _; rw [goO, if_neg (by simp)]; rfl
  | cons x r ih =>
    intro a ha
    simp only [List.length_cons] at ha
    have hw : IntKind.i64.wrap (a : Int) = a := wrap_few (by omega)
    rw [goO]
    by_cases hk : (a : Int) = k
    · have h1 : nthSt k (a, none) x = ((a + 1, some x), false) := by unfold nthSt; rw [hw, if_pos hk]; rfl
      rw [h1, if_neg (by simp), if_pos (by simp only [List.length_cons]; omega)]
      have h2 : k.toNat = a := by omega
      rw [h2]; simp
    · have h1 : nthSt k (a, none) x = ((a + 1, none), true) := by unfold nthSt; rw [hw, if_neg hk]; rfl
      rw [h1, if_pos rfl, ih (a + 1) (by omega)]
      simp only [List.length_cons]
      by_cases h2 : (a : Int) ≤ k ∧ k < (a : Int) + (r.length + 1 : Nat)
      · rw [if_pos (by omega), if_pos h2]
        have h3 : k.toNat - a = (k.toNat - (a + 1)) + 1 := by omega
        rw [h3]; rfl
      · rw [if_neg (by omega), if_neg h2]
        congr 2
        omega
/-- The closure's four variables. -/
structure NthAt (pa pk pn pd : Nat) (k : Int) (s : Nat × Option (List Op3)) (w : World) : Prop where
  num : w.cell? ⟨pa, 0, none⟩ = some (.int .i64 (IntKind.i64.wrap (s.1 : Int)))
  want : w.cell? ⟨pk, 0, none⟩ = some (.int .i64 k)
  nth : ∃ v, w.cell? ⟨pn, 0, none⟩ = some v ∧ ∀ x, s.2 = some x → IsOps w v x
  found : w.cell? ⟨pd, 0, none⟩ = some (.bool s.2.isSome)
  thaw : w.frozen? ⟨pa, 0, none⟩ = false ∧ w.frozen? ⟨pn, 0, none⟩ = false ∧ w.frozen? ⟨pd, 0, none⟩ = false
def VarsN (pa pk pn pd : Nat) : Nat → Prop := fun k => k = pa ∨ k = pk ∨ k = pn ∨ k = pd
structure ApartN (pa pk pn pd : Nat) : Prop where
  ne : pa ≠ pk ∧ pa ≠ pn ∧ pa ≠ pd ∧ pk ≠ pn ∧ pk ≠ pd ∧ pn ≠ pd
theorem opsAt_front {w : World} {q n cap : Nat} {x : List Op3} (h : IsOps w (.slice (some ⟨q, 0, none⟩) n cap) x) : OpsAt w q 0 x := by
  obtain ⟨ad, b, off, cap', hv, ha, _, _, hops⟩ := h
  intro i hi
  have h1 := ha (by omega)
  rw [h1] at hv
  simp only [Value.slice.injEq, Option.some.injEq, Addr.mk.injEq, and_true] at hv
  obtain ⟨⟨rfl, rfl⟩, _⟩ := hv
  exact hops i hi
theorem own_sliceN {w : World} {base e size n : Nat} {v : Value} {xs : List Value} (h : w.ownsRow base e size v n xs) : ∃ ad c, v = .slice ad n c := by
  obtain ⟨_, ⟨h1, h2⟩ | ⟨g, cap, cur, h1, _⟩⟩ := h
  · exact ⟨none, 0, by rw [h1, h2]⟩
  · exact ⟨_, cap, h1⟩
set_option maxHeartbeats 2000000 in
theorem take_nth {hl pa pk pn pd : Nat} {k : Int} (hA : ApartN pa pk pn pd) (hl8 : hl ≤ 8) :
    TakeOk (nthSt k) (NthAt pa pk pn pd k) (fun s => s.2 = none) (VarsN pa pk pn pd) (fun _ => True) hl 14 #[.pointer (some ⟨pa, 0, none⟩), .pointer (some ⟨pk, 0, none⟩), .pointer (some ⟨pn, 0, none⟩), .pointer (some ⟨pd, 0, none⟩)] where
  call := fun _ _ => by kernel_rfl
  on := fun s x h => by
    simp only [nthSt] at h ⊢
    exact Option.isNone_iff_eq_none.1 h
  keep := fun s w w' A hs h ht hF => by
    obtain ⟨v, hv, _⟩ := h.nth
    exact ⟨ht.cell h.num (hF _ (.inl rfl)), ht.cell h.want (hF _ (.inr (.inl rfl))), ⟨v, ht.cell hv (hF _ (.inr (.inr (.inl rfl)))), fun x hx => by rw [hs] at hx; cases hx⟩, ht.cell h.found (hF _ (.inr (.inr (.inr rfl)))),
      (ht.thaw (p := ⟨pa, 0, none⟩) (World.block_lt_of_cell? w _ h.num) (hF _ (.inl rfl))).trans h.thaw.1, (ht.thaw (p := ⟨pn, 0, none⟩) (World.block_lt_of_cell? w _ hv) (hF _ (.inr (.inr (.inl rfl))))).trans h.thaw.2.1, (ht.thaw (p := ⟨pd, 0, none⟩) (World.block_lt_of_cell? w _ h.found) (hF _ (.inr (.inr (.inr rfl))))).trans h.thaw.2.2⟩
  says := by
    rintro ⟨a, fo⟩ x q w hfo hI _ hx hop
    simp only at hfo
    subst hfo
    have HA := hid_mm hA
    have HI := hid_mm hI
    have HOP := hid_mm hop
    have HCN := hid_mm (clone_ops x q 0 hl w (by omega) (opsAt_front hop))
    obtain ⟨vn, c2, -⟩ := hI.nth
    have c0 := hI.num
    have c1 := hI.want
    have c3 := hI.found
    obtain ⟨z0, z2, z3⟩ := hI.thaw
    simp only [Option.isSome_none] at c0 c3
    obtain ⟨v, hv⟩ : ∃ v, IntKind.i64.wrap (a : Int) = v := ⟨_, rfl⟩
    have HV : Hid (IntKind.i64.wrap (v + 1) = IntKind.i64.wrap ((a + 1 : Nat) : Int)) := by show _ = _; rw [← hv]; exact wrap_next a
    have HST : Hid (nthSt k (a, none) x = ((a + 1, if v = k then some x else none), (if v = k then some x else none).isNone)) := by show _ = _; unfold nthSt; rw [hv]
    rw [hv] at c0
    obtain ⟨xl, hxl⟩ : ∃ n, x.length = n := ⟨_, rfl⟩
    have HXL := hid_mm hxl
    rw [hxl] at HCN ⊢
    have HW := hid_mm hv
    rw [HST.out]
    clear hI hx hop hxl hv HST hA
    show Calls Tryz.prog 14 #[.slice (some ⟨q, 0, none⟩) xl hl, .pointer (some ⟨pa, 0, none⟩), .pointer (some ⟨pk, 0, none⟩), .pointer (some ⟨pn, 0, none⟩), .pointer (some ⟨pd, 0, none⟩)] w _
    obtain ⟨n1, n2, n3, n4, n5, n6⟩ := HA.out.ne
    have m2 : ¬ pn = pa := fun e => n2 e.symm
    have m3 : ¬ pd = pa := fun e => n3 e.symm
    have m6 : ¬ pd = pn := fun e => n6 e.symm
    have m1 : ¬ pk = pa := fun e => n1 e.symm
    by_cases hk : v = k
    · subst hk
      simp only [if_pos]
      have C0 := hid_mm c0
      have C1 := hid_mm c1
      have C2 := hid_mm c2
      have C3 := hid_mm c3
      go_enter Tryz.func14, Tryz.ntmps14
      go_upto_region 2 with (fail)
      clear c0 c1 c2 c3 z0 z2 z3
      go_upto_region 3 with (go_at_call 15; refine HCN.out.mono ?_; rintro e w1 ⟨v1, rfl, hown1, -, hb1⟩; obtain ⟨ad1, cp1, rfl⟩ := own_sliceN hown1; have HO1 := hid_mm hown1; have HB1 := hid_mm hb1; have c2 := (hb1.cell (p := ⟨pn, 0, none⟩) (World.block_lt_of_cell? w _ C2.out)).trans C2.out; have c3 := (hb1.cell (p := ⟨pd, 0, none⟩) (World.block_lt_of_cell? w _ C3.out)).trans C3.out; have z2 := (hb1.frozen (p := ⟨pn, 0, none⟩) (World.block_lt_of_cell? w _ C2.out)).trans HI.out.thaw.2.1; have z3 := (hb1.frozen (p := ⟨pd, 0, none⟩) (World.block_lt_of_cell? w _ C3.out)).trans HI.out.thaw.2.2; clear hown1 hb1)
      have d0 := (HB1.out.cell (p := ⟨pa, 0, none⟩) (World.block_lt_of_cell? w _ C0.out)).trans C0.out
      have d1 := (HB1.out.cell (p := ⟨pk, 0, none⟩) (World.block_lt_of_cell? w _ C1.out)).trans C1.out
      have y0 := (HB1.out.frozen (p := ⟨pa, 0, none⟩) (World.block_lt_of_cell? w _ C0.out)).trans HI.out.thaw.1
      go_wp2_with fail
      go_ret
      have hlo : pa < w.heap.size ∧ pn < w.heap.size ∧ pd < w.heap.size := ⟨World.block_lt_of_cell? w _ C0.out, World.block_lt_of_cell? w _ C2.out, World.block_lt_of_cell? w _ C3.out⟩
      have h01 : TurnM (fun z => z = pn) w1 (w1.setCell ⟨pn, 0, none⟩ (.slice ad1 xl cp1)) := TurnM.set (TurnM.refl (fun z => z = pn) w1) (p := ⟨pn, 0, none⟩) rfl _
      have h12 : TurnM (fun z => z = pd) (w1.setCell ⟨pn, 0, none⟩ (.slice ad1 xl cp1)) ((w1.setCell ⟨pn, 0, none⟩ (.slice ad1 xl cp1)).setCell ⟨pd, 0, none⟩ (.bool true)) := TurnM.set (TurnM.refl (fun z => z = pd) _) (p := ⟨pd, 0, none⟩) rfl _
      have h23 : TurnM (fun z => z = pa) ((w1.setCell ⟨pn, 0, none⟩ (.slice ad1 xl cp1)).setCell ⟨pd, 0, none⟩ (.bool true)) (((w1.setCell ⟨pn, 0, none⟩ (.slice ad1 xl cp1)).setCell ⟨pd, 0, none⟩ (.bool true)).setCell ⟨pa, 0, none⟩ (.int .i64 (wrap64 (v + 1)))) := TurnM.set (TurnM.refl (fun z => z = pa) _) (p := ⟨pa, 0, none⟩) rfl _
      have hT : TurnM (fun z => z = pa ∨ z = pn ∨ z = pd) w1 (((w1.setCell ⟨pn, 0, none⟩ (.slice ad1 xl cp1)).setCell ⟨pd, 0, none⟩ (.bool true)).setCell ⟨pa, 0, none⟩ (.int .i64 (wrap64 (v + 1)))) :=
        ((h01.mono fun z h => .inr (.inl h)).trans (h12.mono fun z h => .inr (.inr h))).trans (h23.mono fun z h => .inl h)
      refine ⟨rfl, ⟨?_, ?_, ⟨.slice ad1 xl cp1, ?_, fun y hy => ?_⟩, ?_, ?_⟩, (TurnM.below HB1.out).trans (hT.mono fun z hz => ?_)⟩
      · rw [World.cell?_setCell_same _ _ _ (h12.cell (h01.cell d0 n2) n3)]
        exact congrArg (fun z => some (Value.int .i64 z)) ((show wrap64 (v + 1) = IntKind.i64.wrap (v + 1) by simp only [wrap64, IntKind.wrap_i64]).trans HV.out)
      · exact hT.cell d1 (by simp only; omega)
      · exact h23.cell (h12.cell (World.cell?_setCell_same _ _ _ c2) n6) m2
      · cases hy
        refine hT.ops (isOps_own HO1.out HXL.out) fun b hb hz => ?_
        have := (HO1.out.lt b hb).1
        omega
      · exact h23.cell (World.cell?_setCell_same _ _ _ (h01.cell c3 m6)) m3
      · simp [World.frozen?_setCell, y0, z2, z3]
      · rcases hz with h | h | h
        · exact .inl h
        · exact .inr (.inr (.inl h))
        · exact .inr (.inr (.inr h))
    · have hk' : (v == k) = false := beq_eq_false_iff_ne.2 hk
      simp only [if_neg hk]
      have C0 := hid_mm c0
      have C1 := hid_mm c1
      have C2 := hid_mm c2
      have C3 := hid_mm c3
      clear hk
      go_enter Tryz.func14, Tryz.ntmps14
      go_wp2_with fail
      go_ret
      have hT : TurnM (fun z => z = pa) w (w.setCell ⟨pa, 0, none⟩ (.int .i64 (wrap64 (v + 1)))) := TurnM.set (TurnM.refl (fun z => z = pa) w) (p := ⟨pa, 0, none⟩) rfl _
      refine ⟨rfl, ⟨?_, hT.cell C1.out (by simp only; omega), ⟨vn, hT.cell C2.out (by simp only; omega), fun y hy => (by cases hy)⟩, hT.cell C3.out (by simp only; omega), by simp [World.frozen?_setCell, z0, z2, z3]⟩, hT.mono fun z hz => .inl hz⟩
      rw [World.cell?_setCell_same _ _ _ C0.out]
      exact congrArg (fun z => some (Value.int .i64 z)) ((show wrap64 (v + 1) = IntKind.i64.wrap (v + 1) by simp only [wrap64, IntKind.wrap_i64]).trans HV.out)
set_option maxHeartbeats 4000000 in
theorem mNthC : MNthC := by
  intro l ad cap k w hI _
  have HI := hid_mm hI
  obtain ⟨n, hn⟩ : ∃ n, l.length = n := ⟨_, rfl⟩
  have HN := hid_mm hn
  rw [hn] at HI ⊢
  clear hI hn
  go_enter Tryz.func5, Tryz.ntmps5
  go_upto_region 1 with (fail)
  obtain ⟨W, hW⟩ : ∃ X, X = w.alloc (.cells #[.int .i64 k] 3) := ⟨_, rfl⟩
  obtain ⟨pk, hpk⟩ : ∃ p, p = w.heap.size := ⟨_, rfl⟩
  rw [← hW, ← hpk]
  have hbW : Below w.heap.size w W := by rw [hW]; exact (Below.refl _ w).alloc (Nat.le_refl _) _
  have c0 : W.cell? ⟨pk, 0, none⟩ = some (.int .i64 k) := by rw [hW, hpk]; simp
  have HBW := hid_mm hbW
  have HPK := hid_mm hpk
  have HC0 := hid_mm c0
  have hck := mcheck_fn l ad cap W (by rw [HN.out]; exact HI.out.below hbW (Nat.le_refl _))
  rw [HN.out] at hck
  have HCK := hid_mm hck
  clear hW hpk hbW c0 hck
  go_wp2_with fail
  refine HCK.out.mono ?_
  rintro e w1 ⟨rfl, hb1⟩
  have HB1 := hid_mm hb1
  clear hb1 HCK
  by_cases hz : mixE l = 0
  · have HZ := hid_mm hz
    obtain ⟨hch, hl8⟩ := mixE_zero hz
    have HCH := hid_mm hch
    have HL8 := hid_mm hl8
    rw [hz, errV_zero]
    clear hz hch hl8
    go_upto_region 6 with (fail)
    obtain ⟨pn, hpn⟩ : ∃ p, p = w1.heap.size := ⟨_, rfl⟩
    obtain ⟨V, hV⟩ : ∃ X, X = ((w1.alloc (.cells #[.slice none 0 0] 22)).alloc (.cells #[.int .i64 0] 3)).alloc (.cells #[.bool false] 4) := ⟨_, rfl⟩
    rw [← hV, ← hpn]
    have hbV : Below w1.heap.size w1 V := by rw [hV]; exact (((Below.refl _ w1).alloc (Nat.le_refl _) _).alloc (by simp) _).alloc (by simp; omega) _
    have hbw : Below w.heap.size w V := (HBW.out.trans (HB1.out.mono HBW.out.size)).trans (hbV.mono (Nat.le_trans HBW.out.size HB1.out.size))
    have hp := HPK.out
    have hkl : pk < W.heap.size := World.block_lt_of_cell? W _ HC0.out
    have hs1 := HB1.out.size
    have c1 : V.cell? ⟨pk, 0, none⟩ = some (.int .i64 k) := (hbV.cell (p := ⟨pk, 0, none⟩) (by show pk < w1.heap.size; omega)).trans ((HB1.out.cell (p := ⟨pk, 0, none⟩) hkl).trans HC0.out)
    have c2 : V.cell? ⟨pn, 0, none⟩ = some (.slice none 0 0) := by rw [hV, hpn, World.cell?_alloc_past _ _ _ (by simp; omega), World.cell?_alloc_past _ _ _ (by simp), World.cell?_alloc_at _ _ _ _ (by simp)]; rfl
    have c3 : V.cell? ⟨pn + 1, 0, none⟩ = some (.int .i64 0) := by rw [hV, hpn, World.cell?_alloc_past _ _ _ (by simp), World.cell?_alloc_at _ _ _ _ (by simp)]; rfl
    have c4 : V.cell? ⟨pn + 1 + 1, 0, none⟩ = some (.bool false) := by rw [hV, hpn, World.cell?_alloc_at _ _ _ _ (by simp)]; rfl
    have z2 : V.frozen? ⟨pn, 0, none⟩ = false := by rw [hV, hpn, World.frozen?_alloc_past _ _ _ (by simp; omega), World.frozen?_alloc_past _ _ _ (by simp), World.frozen?_alloc_at _ _ _ _ (by simp)]
    have z3 : V.frozen? ⟨pn + 1, 0, none⟩ = false := by rw [hV, hpn, World.frozen?_alloc_past _ _ _ (by simp), World.frozen?_alloc_at _ _ _ _ (by simp)]
    have z4 : V.frozen? ⟨pn + 1 + 1, 0, none⟩ = false := by rw [hV, hpn, World.frozen?_alloc_at _ _ _ _ (by simp)]
    have hsV : V.heap.size = pn + 3 := by rw [hV, hpn]; simp
    have hap : ApartN (pn + 1) pk pn (pn + 1 + 1) := ⟨by omega⟩
    have heach := each_anyM (st := nthSt k) (I := NthAt (pn + 1) pk pn (pn + 1 + 1) k) (L := fun s => s.2 = none) (T := VarsN (pn + 1) pk pn (pn + 1 + 1)) (G := fun _ => True) l ad cap (0, none) V (take_nth hap HL8.out) (by rw [HN.out]; exact HI.out.below hbw (Nat.le_refl _)) (chk_deal HCH.out) HL8.out (fun q hq => by unfold VarsN at hq; omega) rfl ⟨c3, c1, ⟨_, c2, fun x hx => by cases hx⟩, c4, z3, z2, z4⟩ (fun _ _ => trivial)
    have hlen : (mixL l).length ≤ 1679616 := by
      have h2 := mixG_bound l.length (rowsL l)
      have h3 : 6 ^ l.length ≤ 6 ^ 8 := Nat.pow_le_pow_right (by decide) HL8.out
      have h4 : (6 : Nat) ^ 8 = 1679616 := by decide
      unfold mixL
      omega
    rw [goO_nth k (mixL l) 0 (by omega), HN.out] at heach
    have HEA := hid_mm heach
    have HBV := hid_mm hbw
    have HLO : Hid (∀ q, VarsN (pn + 1) pk pn (pn + 1 + 1) q → w.heap.size ≤ q) := fun q hq => by have := HBW.out.size; unfold VarsN at hq; omega
    have HMM : Hid (mixM l = mixL l) := by show _ = _; unfold mixM; rw [if_pos HZ.out]
    have HNE : Hid (nthE l k = if k < 0 ∨ ((mixL l).length : Int) ≤ k then 1 else 0) := by show _ = _; unfold nthE; rw [if_neg (by rw [HZ.out]; simp), HMM.out]
    clear hV hpn hbV hbw hp hkl hs1 c1 c2 c3 c4 z2 z3 z4 hsV hap heach hlen
    go_wp2_with fail
    refine HEA.out.mono ?_
    rintro e w3 ⟨rfl, hI3, ht3⟩
    have HB3 : Hid (Below w.heap.size w w3) := HBV.out.trans ⟨ht3.os, ht3.tape, ht3.output, ht3.size, fun q hq => ht3.block q (by have := HBV.out.size; omega) (fun e => by have := HLO.out q e; omega)⟩
    clear ht3 HEA
    by_cases hk : (((0 : Nat) : Int) ≤ k ∧ k < ((0 : Nat) : Int) + ((mixL l).length : Int))
    · rw [if_pos hk] at hI3
      obtain ⟨v, hv, hx⟩ := hI3.nth
      have hx := hx _ rfl
      have hf := hI3.found
      simp only [Option.isSome_some] at hf
      have HQ : Hid (nthE l k = 0 ∧ nthL l k = (mixL l).getD (k.toNat - 0) []) := by
        have h1 : nthE l k = 0 := by rw [HNE.out, if_neg (by omega)]
        exact ⟨h1, by unfold nthL; rw [h1, if_pos rfl, HMM.out]; rfl⟩
      have HX := hid_mm hx
      obtain ⟨av, _, _, cv, hvs, -⟩ := hx
      obtain ⟨nv, hnv⟩ : ∃ n, ((mixL l).getD (k.toNat - 0) []).length = n := ⟨_, rfl⟩
      rw [hnv] at hvs
      subst hvs
      clear hI3 hk hnv
      go_wp2_with fail
      go_ret2
      exact ⟨_, by rw [HQ.out.1, errV_zero]; rfl, by rw [HQ.out.2]; exact HX.out, HB3.out⟩
    · rw [if_neg hk] at hI3
      have hf := hI3.found
      simp only [Option.isSome_none] at hf
      have HQ : Hid (nthE l k = 1 ∧ nthL l k = []) := by
        have h1 : nthE l k = 1 := by rw [HNE.out, if_pos (by omega)]
        exact ⟨h1, by unfold nthL; rw [h1, if_neg (by decide)]⟩
      clear hI3 hk
      go_wp2_with fail
      go_ret2
      exact ⟨.slice none 0 0, by rw [HQ.out.1, errV_ne (by decide)]; rfl, by rw [HQ.out.2]; exact isOps_nil _, HB3.out⟩
  · have HQ : Hid (nthE l k = mixE l ∧ nthL l k = []) := by
      have h1 : nthE l k = mixE l := by unfold nthE; rw [if_pos hz]
      exact ⟨h1, by unfold nthL; rw [h1, if_neg hz]⟩
    obtain ⟨c, hc⟩ : ∃ c, mixE l = c := ⟨_, rfl⟩
    rw [hc] at hz
    have HC := hid_mm hc
    have HZ := hid_mm hz
    rw [hc, errV_ne hz]
    clear hc hz
    go_wp2_with fail
    go_ret2
    exact ⟨.slice none 0 0, by rw [HQ.out.1, HC.out, errV_ne HZ.out]; rfl, by rw [HQ.out.2]; exact isOps_nil _, HBW.out.trans (HB1.out.mono HBW.out.size)⟩
end Go.Proofs.YtmjjiehnjghndaaGreat
