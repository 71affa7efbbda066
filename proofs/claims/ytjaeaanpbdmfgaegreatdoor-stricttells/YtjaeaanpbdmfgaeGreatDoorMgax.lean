/-
  PROVED HERE: laneref2.Runner's method abort, over a runner in memory, if free does what chapter 9 says.
  Conditions: what free does is a premise.
  PROVED HERE: plain facts, with no word of the program: what stands behind a deal that has come to be held is done op by op, whatever number of calls may still come.
  Conditions: none.
-/
import Derived.Test.YtjaeaanpbdmfgaeGreatDoorMgat
import Derived.Test.YtjaeaanpbdmfgaeGreatDoorMgaw
import Derived.Test.YtjaeaanpbdmfgaeGreatDoorMgaf
namespace Go.Proofs.YtjaeaanpbdmfgaeGreatDoor
open Go.RowKit

theorem hid_of2 {p : Prop} (h : p) : Hid p := h
theorem infoOpS : (Tryz.prog.info? 43).map (fun i => (i.zero, i.size, i.bytes)) = some (some (.agg #[.int .i64 0, .int .i64 0, .int .i64 0]), 3, 24) := by kernel_rfl
/-- What 'do' is asked, by the number of calls that may still come. -/
def DoC (way : Int) (n : Nat) : Prop := ∀ (R : Nat) (r : Runr) (rv : Nat → Value) (o : Op3) (w : World), RunAt w R way r rv → Good r → pot r ≤ 46 → sum6 r.behind < n → r.out o.1 = false → r.waits o.1 = false → isOpB o = true →
  Calls Tryz.prog 11 #[.pointer (some ⟨R, 0, none⟩), lkV o] w fun e w' => e = .returned (.tuple #[]) ∧ RunStep w w' R way rv (doN way n r o)
def FreeC (way : Int) (n : Nat) : Prop := ∀ (R : Nat) (r : Runr) (rv : Nat → Value) (t : Int) (w : World), RunAt w R way r rv → Good { r with tab := (freeT r.tab t).1 } → r.tab.1.length ≤ 100 → r.tab.2.length ≤ 100 → (∀ x ∈ r.tab.2, 1 ≤ x.1 ∧ x.1 ≤ 6) → pot r ≤ 47 → sum6 r.behind ≤ n →
  Calls Tryz.prog 18 #[.pointer (some ⟨R, 0, none⟩), .int .i64 t] w fun e w' => e = .returned (.tuple #[]) ∧ RunStep w w' R way rv (freeR (doN way n) r t)
def AbortC (way : Int) (n : Nat) : Prop := ∀ (R : Nat) (r : Runr) (rv : Nat → Value) (d : Nat) (w : World), RunAt w R way r rv → Good r → 1 ≤ d → d ≤ 6 → r.out (d : Int) = false → pot r ≤ 47 → sum6 r.behind ≤ n →
  Calls Tryz.prog 22 #[.pointer (some ⟨R, 0, none⟩), .int .i64 d] w fun e w' => e = .returned (.tuple #[]) ∧ RunStep w w' R way rv (abortR (doN way n) r (d : Int))
section
variable {W w2 : World} {R n c : Nat} {way : Int} {r : Runr} {rv : Nat → Value} {ob : Obj} {ad : Option Addr} {v2 : Value}
/-- An append to what is told, in a region in the text's order. -/
theorem RunAt.tellA {x : Op3} (h : RunAt W R way r rv) (e : rv 2 = .slice ad n c) (hn : r.told.length = n) (hown : w2.ownsRow (R + 1) 43 3 v2 (n + 1) (flat r.told ++ flat [x])) (hgr : (W.alloc ob).grownBy w2 (Value.slice ad n c).ownBlock) (hap : ∀ g, v2.ownBlock = some g → (Value.slice ad n c).ownBlock = some g ∨ (W.alloc ob).heap.size ≤ g) :
    w2.cell? ⟨R, 45, none⟩ = some (.slice ad n c) ∧ w2.frozen? ⟨R, 45, none⟩ = false ∧ RunStep W (w2.setCell ⟨R, 45, none⟩ v2) R way rv { r with told := r.told ++ [x] } := by
  have htu : Turns (fun k => (rv 2).ownBlock = some k) W w2 := ((Turns.refl _ W).alloc ob).grown hgr fun k hk => .inl (by rw [e]; exact hk)
  rw [← e]
  exact h.pushTold htu (by rw [hn]; exact hown) fun g hg => by
    rcases hap g hg with h1 | h1
    · exact .inl (by rw [e]; exact h1)
    · exact .inr (by simp at h1; omega)
/-- The same, in a region that draws. -/
theorem RunAt.tellD {x : Op3} (h : RunAt W R way r rv) (e : rv 2 = .slice ad n c) (hn : r.told.length = n) (hown : w2.ownsRow (R + 1) 43 3 v2 (n + 1) (flat r.told ++ flat [x])) (hgr : (W.drew.alloc ob).grownBy w2 (Value.slice ad n c).ownBlock) (hap : ∀ g, v2.ownBlock = some g → (Value.slice ad n c).ownBlock = some g ∨ (W.drew.alloc ob).heap.size ≤ g) :
    w2.cell? ⟨R, 45, none⟩ = some (.slice ad n c) ∧ w2.frozen? ⟨R, 45, none⟩ = false ∧ RunStep W (w2.setCell ⟨R, 45, none⟩ v2) R way rv { r with told := r.told ++ [x] } := by
  have htu : Turns (fun k => (rv 2).ownBlock = some k) W w2 := by rw [e]; exact turn_grown hgr
  rw [← e]
  exact h.pushTold htu (by rw [hn]; exact hown) fun g hg => by
    rcases apart_later hap g hg with h1 | h1
    · exact .inl (by rw [e]; exact h1)
    · exact .inr h1
theorem RunAt.victA {x : Int} (h : RunAt W R way r rv) (e : rv 3 = .slice ad n c) (hn : r.vict.length = n) (hown : w2.ownsRow (R + 1) 3 1 v2 (n + 1) (r.vict.map (Value.int .i64) ++ [.int .i64 x])) (hgr : (W.alloc ob).grownBy w2 (Value.slice ad n c).ownBlock) (hap : ∀ g, v2.ownBlock = some g → (Value.slice ad n c).ownBlock = some g ∨ (W.alloc ob).heap.size ≤ g) :
    w2.cell? ⟨R, 46, none⟩ = some (.slice ad n c) ∧ w2.frozen? ⟨R, 46, none⟩ = false ∧ RunStep W (w2.setCell ⟨R, 46, none⟩ v2) R way rv { r with vict := r.vict ++ [x] } := by
  have htu : Turns (fun k => (rv 3).ownBlock = some k) W w2 := ((Turns.refl _ W).alloc ob).grown hgr fun k hk => .inl (by rw [e]; exact hk)
  rw [← e]
  exact h.pushVict htu (by rw [hn]; exact hown) fun g hg => by
    rcases hap g hg with h1 | h1
    · exact .inl (by rw [e]; exact h1)
    · exact .inr (by simp at h1; omega)
end
set_option maxHeartbeats 8000000 in
set_option maxRecDepth 100000 in
theorem abort_run {way : Int} {n : Nat} (hF : FreeC way n) : AbortC way n := by
  intro R r rv d w h hg h1 h6 ho hp hs
  have HF : Hid (FreeC way n) := hF
  have HTB := hid_of2 (hg.tabs hp)
  have HTD : Hid (∀ x ∈ r.tab.2, 1 ≤ x.1 ∧ x.1 ≤ 6) := fun x hx => (hg.t2 x hx).2
  have HAG : Hid (Good { abort0 r (d : Int) with tab := (freeT r.tab (d : Int)).1 }) := abort_good hg (by omega) (by omega) ho
  have HAP : Hid (pot (abort0 r (d : Int)) ≤ 47 ∧ sum6 (abort0 r (d : Int)).behind ≤ n) := ⟨Nat.le_trans (abort0_pot (by omega) (by omega) ho) hp, Nat.le_trans (abort0_sum r _) hs⟩
  have HRUN : Hid (RunAt w R way r rv) := h
  obtain ⟨i0, hi, hz0, hs0, hy0⟩ := info_parts infoOpS
  have HI : Hid (Tryz.prog.info? 43 = some i0 ∧ i0.zero = some (.agg #[.int .i64 0, .int .i64 0, .int .i64 0]) ∧ i0.size = 3 ∧ i0.bytes = 24) := ⟨hi, hz0, hs0, hy0⟩
  obtain ⟨j0, hj, hjz0, hjs0, hjy0⟩ := info_parts infoInt
  have HJ : Hid (Tryz.prog.info? 3 = some j0 ∧ j0.zero = some (.int .i64 0) ∧ j0.size = 1 ∧ j0.bytes = 8) := ⟨hj, hjz0, hjs0, hjy0⟩
  have c38 := h.c38 (d := d) (by omega)
  have z38 := h.thaw (38 + d)
  have hd0 : (0 : Int) ≤ (d : Int) := by omega
  have hdn : ¬ (d : Int) < 0 := by omega
  have hd7 : (d : Int) < 7 := by omega
  clear hi hz0 hs0 hy0 hj hjz0 hjs0 hjy0 hF hg ho hp hs h
  go_enter Tryz.func22, Tryz.ntmps22
  go_upto_region 1 with (fail)
  obtain ⟨k1, t1⟩ := HRUN.out.setOut (d := d) (by omega) true
  obtain ⟨W1, hW1⟩ : ∃ W1, W1 = w.setCell ⟨R, 38 + d, none⟩ (.bool true) := ⟨_, rfl⟩
  rw [← hW1] at k1 t1 ⊢
  obtain ⟨r1, hr1⟩ : ∃ r1 : Runr, r1 = { r with out := setF r.out (d : Int) true } := ⟨_, rfl⟩
  rw [← hr1] at k1
  have HR1 : Hid (RunAt W1 R way r1 rv) := k1
  have HT1 : Hid (RunStep w W1 R way rv r1) := ⟨rv, k1, t1, fun _ hk => .inl hk⟩
  have HE1 : Hid (r1 = { r with out := setF r.out (d : Int) true }) := hr1
  have hR1 := k1.lt
  obtain ⟨ad3, c3, e3, -⟩ := own_slice3 k1.vict
  obtain ⟨n3, hn3⟩ : ∃ n, r1.vict.length = n := ⟨_, rfl⟩
  rw [hn3] at e3
  have hn6 : n3 ≤ 6 := by rw [← hn3, hr1]; exact HTB.out.2.2.2
  have c46 := k1.c46
  rw [e3] at c46
  have HV : Hid (W1.ownsRow (R + 1) 3 1 (.slice ad3 n3 c3) n3 (r1.vict.map (Value.int .i64))) := by show World.ownsRow _ _ _ _ _ _ _; have := k1.vict; rw [e3, hn3] at this; exact this
  have HPV : Hid (∀ v2 w2 (ob : Obj), w2.ownsRow (R + 1) 3 1 v2 (n3 + 1) (r1.vict.map (Value.int .i64) ++ [.int .i64 (d : Int)]) → (W1.alloc ob).grownBy w2 (Value.slice ad3 n3 c3).ownBlock → (∀ g, v2.ownBlock = some g → (Value.slice ad3 n3 c3).ownBlock = some g ∨ (W1.alloc ob).heap.size ≤ g) → w2.cell? ⟨R, 46, none⟩ = some (.slice ad3 n3 c3) ∧ w2.frozen? ⟨R, 46, none⟩ = false ∧ RunStep W1 (w2.setCell ⟨R, 46, none⟩ v2) R way rv { r1 with vict := r1.vict ++ [(d : Int)] }) := fun v2 w2 ob h1 h2 h3 => HR1.out.victA e3 hn3 h1 h2 h3
  clear hW1 t1 k1 hr1 e3 hn3 c38 z38
  go_upto_region 2 with (at_builtin; refine wpList_append_apart _ rfl (.tmp 13) (.tmp 15) 24 rfl (R + 1) 3 j0 (.int .i64 0) 1 8 Tryz.underlying24 HJ.out.1 HJ.out.2.1 HJ.out.2.2.1 HJ.out.2.2.2 rfl (by decide) (.slice ad3 n3 c3) n3 (r1.vict.map (Value.int .i64)) rfl (HV.out.alloc _) ⟨W1.heap.size, 0, none⟩ 1 1 [.int .i64 (d : Int)] rfl rfl (cell_one_new _ _ _) (by simp [Value.oneCell']) (by unfold maxLen; omega) (by omega) (by simp; omega) ?_; intro v2 w2 hown2 hgr2 hap2; obtain ⟨g0, g1, g2⟩ := HPV.out v2 w2 _ hown2 hgr2 hap2; obtain ⟨ad4, c4, rfl, -⟩ := own_slice3 hown2; have HG2 := hid_of2 g2; clear g2 hgr2 hap2 hown2)
  obtain ⟨W2, hW2⟩ : ∃ W2, W2 = w2.setCell ⟨R, 46, none⟩ (.slice ad4 (n3 + 1) c4) := ⟨_, rfl⟩
  rw [← hW2] at HG2 ⊢
  obtain ⟨rv2, k2, t2, f2⟩ := HG2.out
  obtain ⟨r2, hr2⟩ : ∃ r2 : Runr, r2 = { r1 with vict := r1.vict ++ [(d : Int)] } := ⟨_, rfl⟩
  rw [← hr2] at k2
  have HR2 : Hid (RunAt W2 R way r2 rv2) := k2
  have HT2 : Hid (Turns (footR R rv) W1 W2 ∧ ∀ k, footR R rv2 k → footR R rv k ∨ W1.heap.size ≤ k) := ⟨t2, f2⟩
  have HE2 : Hid (r2 = { r1 with vict := r1.vict ++ [(d : Int)] }) := hr2
  have hR2 := k2.lt
  obtain ⟨ad5, c5, e5, -⟩ := own_slice3 k2.told
  obtain ⟨n5, hn5⟩ : ∃ n, r2.told.length = n := ⟨_, rfl⟩
  rw [hn5] at e5
  have hn47 : n5 ≤ 47 := by rw [← hn5, hr2, HE1.out]; exact HTB.out.2.2.1
  have c45 := k2.c45
  rw [e5] at c45
  have HV2 : Hid (W2.ownsRow (R + 1) 43 3 (.slice ad5 n5 c5) n5 (flat r2.told)) := by show World.ownsRow _ _ _ _ _ _ _; have := k2.told; rw [e5, hn5] at this; exact this
  have HPT : Hid (∀ v2 w2 (ob : Obj), w2.ownsRow (R + 1) 43 3 v2 (n5 + 1) (flat r2.told ++ flat [((d : Int), 4, 0)]) → (W2.alloc ob).grownBy w2 (Value.slice ad5 n5 c5).ownBlock → (∀ g, v2.ownBlock = some g → (Value.slice ad5 n5 c5).ownBlock = some g ∨ (W2.alloc ob).heap.size ≤ g) → w2.cell? ⟨R, 45, none⟩ = some (.slice ad5 n5 c5) ∧ w2.frozen? ⟨R, 45, none⟩ = false ∧ RunStep W2 (w2.setCell ⟨R, 45, none⟩ v2) R way rv2 { r2 with told := r2.told ++ [((d : Int), 4, 0)] }) := fun v2 w2 ob h1 h2 h3 => HR2.out.tellA e5 hn5 h1 h2 h3
  clear hW2 t2 k2 f2 hr2 e5 hn5 g0 g1 c46 HG2 HPV HV
  go_upto_region 3 with (at_builtin; refine wpList_append_apart _ rfl (.tmp 23) (.tmp 26) 22 rfl (R + 1) 43 i0 (.agg #[.int .i64 0, .int .i64 0, .int .i64 0]) 3 24 Tryz.underlying22 HI.out.1 HI.out.2.1 HI.out.2.2.1 HI.out.2.2.2 rfl (by decide) (.slice ad5 n5 c5) n5 (flat r2.told) rfl (HV2.out.alloc _) ⟨W2.heap.size, 0, none⟩ 1 1 (flat [((d : Int), 4, 0)]) rfl rfl (lock_new W2 ((d : Int), 4, 0) _) (flat_one _) (by unfold maxLen; omega) (by omega) (by simp; omega) ?_; intro v3 w3 hown3 hgr3 hap3; obtain ⟨g0, g1, g2⟩ := HPT.out v3 w3 _ hown3 hgr3 hap3; obtain ⟨ad6, c6, rfl, -⟩ := own_slice3 hown3; have HG3 := hid_of2 g2; clear g2 hgr3 hap3 hown3)
  obtain ⟨W3, hW3⟩ : ∃ W3, W3 = w3.setCell ⟨R, 45, none⟩ (.slice ad6 (n5 + 1) c6) := ⟨_, rfl⟩
  rw [← hW3] at HG3 ⊢
  obtain ⟨rv3, k3, t3, f3⟩ := HG3.out
  obtain ⟨r3, hr3⟩ : ∃ r3 : Runr, r3 = { r2 with told := r2.told ++ [((d : Int), 4, 0)] } := ⟨_, rfl⟩
  rw [← hr3] at k3
  have HR3 : Hid (RunAt W3 R way r3 rv3) := k3
  have HT3 : Hid (Turns (footR R rv2) W2 W3 ∧ ∀ k, footR R rv3 k → footR R rv2 k ∨ W2.heap.size ≤ k) := ⟨t3, f3⟩
  have HE3 : Hid (r3 = { r2 with told := r2.told ++ [((d : Int), 4, 0)] }) := hr3
  have c3' := k3.c3 (d := d) (by omega)
  have z3' := k3.thaw (3 + d)
  have hR3 := k3.lt
  clear hW3 t3 k3 f3 hr3 g0 g1 c45 HG3 HPT HV2
  go_upto_region 4 with (fail)
  obtain ⟨k4, t4⟩ := HR3.out.setWaits (d := d) (by omega) false
  obtain ⟨W4, hW4⟩ : ∃ W4, W4 = W3.setCell ⟨R, 3 + d, none⟩ (.bool false) := ⟨_, rfl⟩
  rw [← hW4] at k4 t4 ⊢
  obtain ⟨r4, hr4⟩ : ∃ r4 : Runr, r4 = { r3 with waits := setF r3.waits (d : Int) false } := ⟨_, rfl⟩
  rw [← hr4] at k4
  have HR4 : Hid (RunAt W4 R way r4 rv3) := k4
  have HT4 : Hid (Turns (footR R rv3) W3 W4) := t4
  have HE4 : Hid (r4 = { r3 with waits := setF r3.waits (d : Int) false }) := hr4
  obtain ⟨u31, hu31⟩ : ∃ u, u = rv3 (d + 4) := ⟨_, rfl⟩
  have c31 := k4.c31 (d := d) (by omega)
  rw [← hu31] at c31
  have z31 := k4.thaw (31 + d)
  have hR4 := k4.lt
  clear hW4 t4 k4 hr4 c3' z3' hu31
  go_upto_region 5 with (fail)
  have hst5 := HR4.out.setBehind (w1 := W4) (v := .slice none 0 0) (q := []) (d := d) (by omega) (Turns.refl _ _) (tail_nil _ _ _ _) (fun g hg => by simp [Value.ownBlock] at hg)
  obtain ⟨W5, hW5⟩ : ∃ W5, W5 = W4.setCell ⟨R, 31 + d, none⟩ (.slice none 0 0) := ⟨_, rfl⟩
  rw [← hW5] at hst5 ⊢
  obtain ⟨rv5, k5, t5, f5⟩ := hst5
  have he5 : ({ r4 with behind := setF r4.behind (d : Int) [] } : Runr) = abort0 r (d : Int) := by rw [HE4.out, HE3.out, HE2.out, HE1.out]; rfl
  rw [he5] at k5
  have HR5 : Hid (RunAt W5 R way (abort0 r (d : Int)) rv5) := k5
  have HT5 : Hid (Turns (footR R rv3) W4 W5 ∧ ∀ k, footR R rv5 k → footR R rv3 k ∨ W4.heap.size ≤ k) := ⟨t5, f5⟩
  clear hW5 k5 t5 f5 he5 c31 z31
  go_wp2_with fail
  refine (HF.out R (abort0 r (d : Int)) rv5 (d : Int) W5 HR5.out HAG.out HTB.out.1 HTB.out.2.1 HTD.out HAP.out.1 HAP.out.2).mono ?_
  rintro e W6 ⟨rfl, hst6⟩
  have HST := hid_of2 hst6
  clear hst6
  go_wp2_with fail
  go_end0
  refine ⟨rfl, ?_⟩
  have a5 := RunStep.trans HT5.out.1 HT5.out.2 HST.out
  have a4 := RunStep.trans HT4.out (fun _ hk => .inl hk) a5
  have a3 := RunStep.trans HT3.out.1 HT3.out.2 a4
  have a2 := RunStep.trans HT2.out.1 HT2.out.2 a3
  obtain ⟨rv', b1, b2, b3⟩ := HT1.out
  have t1' : Turns (footR R rv) w W1 := b2
  exact RunStep.trans t1' (fun _ hk => .inl hk) a2
end Go.Proofs.YtjaeaanpbdmfgaeGreatDoor

namespace Go.Proofs.YtjaeaanpbdmfgaeGreatDoor

theorem drain_stop {doF : Runr → Op3 → Runr} {d : Int} {r : Runr} (h : r.waits d = true ∨ r.behind d = []) (m : Nat) : drainN doF d m r = r := by
  cases m with
  | zero => rfl
  | succ m =>
    unfold drainN
    split
    · rfl
    · rename_i hw
      rcases h with h | h
      · exact absurd h hw
      · rw [h]
/-- One that stands behind is taken. -/
def popR (r : Runr) (d : Int) (q : List Op3) : Runr := { r with behind := setF r.behind d q }
theorem pop_ok {r : Runr} {d : Int} {o : Op3} {q : List Op3} (h : Good r) (h1 : 1 ≤ d) (h6 : d ≤ 6) (hb : r.behind d = o :: q) : Good (popR r d q) ∧ pot (popR r d q) + 1 = pot r ∧ sum6 (popR r d q).behind + 1 = sum6 r.behind ∧ o.1 = d ∧ isOpB o = true ∧ r.out d = false := by
  have ho := h.ops d o (by rw [hb]; exact List.mem_cons_self)
  have hout : r.out d = false := by
    cases he : r.out d with
    | false => rfl
    | true => rw [h.gone d he] at hb; cases hb
  have hsum := sum_pop h1 h6 hb
  refine ⟨⟨h.t1, h.t2, fun e he => ?_, fun e p hp => ?_, h.size, h.vict, h.wait⟩, ?_, hsum, ho.1, ho.2, hout⟩
  · show setF r.behind d q e = []
    have he' : r.out e = true := he
    unfold setF
    split
    · rename_i hed
      subst hed
      rw [hout] at he'
      cases he'
    · exact h.gone e he'
  · have hp' : p ∈ setF r.behind d q e := hp
    unfold setF at hp'
    split at hp'
    · rename_i hed
      subst hed
      exact h.ops e p (by rw [hb]; exact List.mem_cons_of_mem _ hp')
    · exact h.ops e p hp'
  · unfold pot popR
    dsimp only
    omega
theorem drain_any {doF : Runr → Op3 → Runr} (hF : DoOk doF) {d : Int} (h1 : 1 ≤ d) (h6 : d ≤ 6) : ∀ (m k : Nat) (r : Runr), Good r → (r.behind d).length ≤ m → (r.behind d).length ≤ k → drainN doF d m r = drainN doF d k r := by
  intro m
  induction m with
  | zero =>
    intro k r _ hm _
    have : r.behind d = [] := List.length_eq_zero_iff.1 (by omega)
    rw [drain_stop (.inr this), drain_stop (.inr this)]
  | succ m ih =>
    intro k r hg hm hk
    cases k with
    | zero =>
      have : r.behind d = [] := List.length_eq_zero_iff.1 (by omega)
      rw [drain_stop (.inr this), drain_stop (.inr this)]
    | succ k =>
      unfold drainN
      split
      · rfl
      · rename_i hw
        split
        · rfl
        · rename_i o q hb
          obtain ⟨g1, g2, g3, g4, g5, g6⟩ := pop_ok hg h1 h6 hb
          have hs := hF (popR r d q) o g1 (by rw [g4]; exact g6) (by rw [g4]; show r.waits d = false; simpa using hw) g5
          have hl := hs.less d
          have hq : ((popR r d q).behind d).length = q.length := by
            show (setF r.behind d q d).length = _
            rw [setF_same]
          rw [hb] at hm hk
          simp only [List.length_cons] at hm hk
          exact ih k _ hs.good (by show ((doF (popR r d q) o).behind d).length ≤ m; omega) (by show ((doF (popR r d q) o).behind d).length ≤ k; omega)
theorem drain_next {doF : Runr → Op3 → Runr} (hF : DoOk doF) {d : Int} (h1 : 1 ≤ d) (h6 : d ≤ 6) {r : Runr} {o : Op3} {q : List Op3} (hg : Good r) (hw : r.waits d = false) (hb : r.behind d = o :: q) : drainN doF d (r.behind d).length r = drainN doF d ((doF (popR r d q) o).behind d).length (doF (popR r d q) o) := by
  obtain ⟨g1, g2, g3, g4, g5, g6⟩ := pop_ok hg h1 h6 hb
  have hs := hF (popR r d q) o g1 (by rw [g4]; exact g6) (by rw [g4]; exact hw) g5
  have hl := hs.less d
  have hq : ((popR r d q).behind d).length = q.length := by
    show (setF r.behind d q d).length = _
    rw [setF_same]
  have e1 : drainN doF d (q.length + 1) r = drainN doF d q.length (doF (popR r d q) o) := by
    rw [drainN, if_neg (by rw [hw]; decide)]
    split
    · rename_i hb2; rw [hb] at hb2; cases hb2
    · rename_i o2 q2 hb2
      rw [hb] at hb2
      injection hb2 with e2 e3
      subst e2
      subst e3
      rfl
  rw [hb, List.length_cons, e1]
  exact drain_any hF h1 h6 _ _ _ hs.good (by omega) (Nat.le_refl _)
/-- One that waited is told. -/
def gotR (r : Runr) (d : Int) : Runr := { r with waits := setF r.waits d false, told := r.told ++ [r.op d] }
theorem got_ok {r : Runr} {d : Int} (h : Good r) (hw : r.waits d = true) : Good (gotR r d) ∧ pot (gotR r d) ≤ pot r := by
  obtain ⟨h1, h6⟩ := h.wait _ hw
  have hc := cnt_drop h1 h6 hw
  refine ⟨⟨h.t1, h.t2, h.gone, h.ops, ?_, h.vict, fun e he => ?_⟩, ?_⟩
  · have := h.size
    show _ ≤ (r.told ++ [r.op d]).length + cnt6 (setF r.waits d false)
    rw [List.length_append, List.length_singleton]
    show r.tab.1.length + r.tab.2.length ≤ _
    omega
  · have he' : setF r.waits d false e = true := he
    unfold setF at he'
    split at he'
    · cases he'
    · exact h.wait e he'
  · unfold pot gotR
    dsimp only
    rw [List.length_append, List.length_singleton]
    omega
theorem grantR_yes {doF : Runr → Op3 → Runr} {r : Runr} {x : Op3} (h : r.waits x.1 = true) : grantR doF r x = drainN doF x.1 ((gotR r x.1).behind x.1).length (gotR r x.1) := by
  unfold grantR
  rw [if_pos h]
  rfl
theorem grantR_no {doF : Runr → Op3 → Runr} {r : Runr} {x : Op3} (h : r.waits x.1 = false) : grantR doF r x = r := by
  unfold grantR
  rw [if_neg (by rw [h]; decide)]
end Go.Proofs.YtjaeaanpbdmfgaeGreatDoor
