/-
  PROVED HERE: laneref2.Strict answers what chapter 9, as a function on lists, tells, of any ops that are right. Old memory stays as it was.
  Conditions: there are at most 40 ops, each of which is one.
-/
import Derived.Test.YtjaeaanpbdmfgaeGreatDoorRefStrict5
namespace Go.Proofs.YtjaeaanpbdmfgaeGreatDoor
open Go.RowKit

theorem runr_at (w : World) (way : Int) : RunAt (w.alloc (.cells (cells47 way (fun _ => false) (fun _ => false) (fun _ => (0, 0, 0)) (fun _ => .slice none 0 0)) 47)) w.heap.size way run0 (fun _ => .slice none 0 0) := by
  refine ⟨heap_alloc_new w _, fun i hi => ?_, fun i j g _ _ _ h1 _ => by simp [Value.ownBlock] at h1⟩
  match i with
  | 0 => exact World.ownsRow_nil _ _ _ _
  | 1 => exact World.ownsRow_nil _ _ _ _
  | 2 => exact World.ownsRow_nil _ _ _ _
  | 3 => exact World.ownsRow_nil _ _ _ _
  | d + 4 => exact tail_nil _ _ _ _
theorem runr_split {c : Code} {Q : Exit → Act → World → Prop} {a : Act} (w : World) (way : Int) (Z : Array Value) (hZ : cells47 way (fun _ => false) (fun _ => false) (fun _ => (0, 0, 0)) (fun _ => .slice none 0 0) = Z) (h : ∀ W, RunAt W w.heap.size way run0 (fun _ => .slice none 0 0) → Below w.heap.size w W → Code.wp Tryz.prog c Q a W) :
    Code.wp Tryz.prog c Q a (w.alloc (.cells Z 47)) := by
  subst hZ
  exact h _ (runr_at w way) ((Below.refl _ w).alloc (Nat.le_refl _) _)
theorem strict_sum (way : Int) (l : List Op3) (hop : ∀ o ∈ l, isOpB o = true) : ∀ k, k ≤ l.length → sum6 (strictR way (l.take k)).behind ≤ k := by
  intro k
  induction k with
  | zero => intro _; exact Nat.le_refl _
  | succ k ih =>
    intro hk
    have h1 := ih (by omega)
    have hg := (strict_ok way l hop k (by omega)).1
    have e : strictR way (l.take (k + 1)) = comeR way (strictR way (l.take k)) l[k] := by
      unfold strictR
      rw [List.take_succ_eq_append_getElem (by omega), List.foldl_append]
      rfl
    have ho := hop _ (List.getElem_mem (show k < l.length by omega))
    obtain ⟨a1, a6⟩ := isOp_range ho
    rw [e]
    unfold comeR
    split
    · omega
    · rename_i hout
      split
      · have := sum_push (f := (strictR way (l.take k)).behind) l[k] a1 a6
        show sum6 (setF _ _ _) ≤ k + 1
        omega
      · rename_i hw
        have hs := doN_ok way 41 _ l[k] hg (by simpa using hout) (by simpa using hw) ho
        have := sum_mono hs.less
        omega
theorem strict_snoc (way : Int) {l : List Op3} {k : Nat} (hk : k < l.length) : strictR way (l.take (k + 1)) = comeR way (strictR way (l.take k)) (opAt l k) := by
  unfold strictR
  rw [take_snoc hk, List.foldl_append]
  rfl
theorem tail_shape {w : World} {base e size n : Nat} {v : Value} {xs : List Value} (h : Tail w base e size v n xs) : ∃ ad c, v = .slice ad n c := by
  obtain ⟨_, ⟨hv, hd⟩ | ⟨g, off, cap, cur, hv, _⟩⟩ := h
  · exact ⟨none, 0, by rw [hv, hd]⟩
  · exact ⟨_, cap, hv⟩
theorem heap_alloc_lt (w : World) (ob : Obj) {g : Nat} (h : g < w.heap.size) : (w.alloc ob).heap[g]? = w.heap[g]? := ((Below.refl w.heap.size w).alloc (Nat.le_refl _) ob).block g h
/-- A runner that has been made since a world. -/
structure OwnRun (w0 w : World) (way : Int) (r : Runr) (rv : Nat → Value) : Prop where
  run : RunAt w w0.heap.size way r rv
  old : Below w0.heap.size w0 w
  feet : ∀ k, footR w0.heap.size rv k → w0.heap.size ≤ k
section
variable {w0 w w1 : World} {way : Int} {r r1 : Runr} {rv : Nat → Value}
theorem OwnRun.below (h : OwnRun w0 w way r rv) (hb : Below w.heap.size w w1) : OwnRun w0 w1 way r rv := ⟨h.run.below hb, h.old.trans (hb.mono h.old.size), h.feet⟩
theorem OwnRun.step (h : OwnRun w0 w way r rv) (hs : RunStep w w1 w0.heap.size way rv r1) : ∃ rv1, OwnRun w0 w1 way r1 rv1 := by
  obtain ⟨rv1, h1, h2, h3⟩ := hs
  refine ⟨rv1, h1, h.old.trans (h2.below h.old.size fun k hk hf => ?_), fun k hk => ?_⟩
  · have := h.feet k hf; omega
  · rcases h3 k hk with h4 | h4
    · exact h.feet k h4
    · exact Nat.le_trans h.old.size h4
end
set_option maxHeartbeats 16000000 in
set_option maxRecDepth 100000 in
theorem refStrict_any (l : List Op3) (v : Value) (way : Int) (w : World) (hI : IsOps w v l) (hl : l.length ≤ 40) (hop : ∀ o ∈ l, isOpB o = true) :
    Calls Tryz.prog 5 #[v, .int .i64 way] w fun e w' => ∃ v1 v2, e = .returned (.tuple #[v1, v2]) ∧ IsOps w' v1 (strictR way l).told ∧ IsInts w' v2 (strictR way l).vict ∧ Below w.heap.size w w' := by
  obtain ⟨ad, b, off, cap, rfl, ha, -, hbB, hops⟩ := hI
  have HE : Hid (∀ W, Below w.heap.size w W → ∀ k, k < l.length → ad = some ⟨b, off, none⟩ ∧ b < w.heap.size ∧ W.cell? ⟨b, off + k * 3, none⟩ = some (.int .i64 (opAt l k).1) ∧ W.cell? ⟨b, off + k * 3 + 1, none⟩ = some (.int .i64 (opAt l k).2.1) ∧ W.cell? ⟨b, off + k * 3 + 2, none⟩ = some (.int .i64 (opAt l k).2.2)) := fun W hW k hk => by
    refine ⟨ha (by omega), ?_, (hops.below hW hbB) k hk⟩
    rcases hbB with h | h
    · exact h
    · subst h; simp at hk
  have HOP : Hid (∀ o ∈ l, isOpB o = true) := hop
  obtain ⟨i0, hi, hz0, hs0, hy0⟩ := info_parts infoOpS
  have HI : Hid (Tryz.prog.info? 43 = some i0 ∧ i0.zero = some (.agg #[.int .i64 0, .int .i64 0, .int .i64 0]) ∧ i0.size = 3 ∧ i0.bytes = 24) := ⟨hi, hz0, hs0, hy0⟩
  clear ha hbB hops hop hi hz0 hs0 hy0
  go_enter Tryz.func5, Tryz.ntmps5
  go_upto_region 2 with (fail)
  refine runr_split w way _ rfl ?_
  intro W hrun hbW
  have HR : Hid (OwnRun w W way run0 (fun _ => .slice none 0 0)) := ⟨hrun, hbW, fun k hk => by
    rcases hk with rfl | ⟨i, _, hk⟩
    · exact Nat.le_refl _
    · simp [Value.ownBlock] at hk⟩
  obtain ⟨R, hR⟩ : ∃ R, R = w.heap.size := ⟨_, rfl⟩
  rw [← hR]
  have HRE : Hid (R = w.heap.size) := hR
  clear hrun hbW hR
  go_wp2_with fail
  go_loopw [7, 8] (fun v7 _ wr => ∃ (k : Nat) (rvk : Nat → Value), k ≤ l.length ∧ v7 = .int .i64 k ∧ OwnRun w wr way (strictR way (l.take k)) rvk) (fun v7 _ _ => l.length - (intOf v7).toNat)
  case atStart => exact ⟨0, _, Nat.zero_le _, rfl, HR.out⟩
  case round =>
    obtain ⟨k, rvk, hk, rfl, hok⟩ := hrel
    obtain ⟨hgk, hpk⟩ := strict_ok way l HOP.out k hk
    have hsk := strict_sum way l HOP.out k hk
    obtain ⟨rk, hrk⟩ : ∃ rk, strictR way (l.take k) = rk := ⟨_, rfl⟩
    rw [hrk] at hok hgk hpk hsk
    have HOK := hid_of2 hok
    have HRK := hid_of2 hrk
    have HGK : Hid (Good rk ∧ pot rk ≤ k + 6 ∧ sum6 rk.behind ≤ k) := ⟨hgk, hpk, hsk⟩
    have hrun := hok.run
    rw [← HRE.out] at hrun
    have HRUN : Hid (RunAt wr R way rk rvk) := hrun
    have hRl := hrun.lt
    by_cases hlt : k < l.length
    · have hlt' : (k : Int) < (l.length : Int) := by omega
      obtain ⟨rfl, hbw, e0, e1, e2⟩ := HE.out wr hok.old k hlt
      obtain ⟨⟨t, a, i⟩, ho⟩ : ∃ o : Op3, opAt l k = o := ⟨_, rfl⟩
      have hiso : isOpB (t, a, i) = true := by rw [← ho]; exact HOP.out _ (opAt_mem hlt)
      obtain ⟨h1, h6⟩ := isOp_range hiso
      rw [ho] at e0 e1 e2
      simp only at e0 e1 e2 h1 h6
      obtain ⟨dt, rfl⟩ : ∃ d : Nat, t = d := ⟨t.toNat, by omega⟩
      have HNX : Hid (strictR way (l.take (k + 1)) = comeR way rk ((dt : Int), a, i)) := by show _ = _; rw [strict_snoc way hlt, hrk, ho]
      have HISO := hid_of2 hiso
      have hd1 : 1 ≤ dt := by omega
      have hd6 : dt ≤ 6 := by omega
      have hd0 : (0 : Int) ≤ (dt : Int) := by omega
      have hdn : ¬ (dt : Int) < 0 := by omega
      have hd7 : (dt : Int) < 7 := by omega
      have c38 := hrun.c38 (d := dt) (by omega)
      have c3' := hrun.c3 (d := dt) (by omega)
      have hbR : b < wr.heap.size := Nat.lt_of_lt_of_le hbw hok.old.size
      clear hok hgk hpk hsk hrk hrun ho hiso h1 h6 HR
      cases hout : rk.out (dt : Int) with
      | true =>
        have HC : Hid (comeR way rk ((dt : Int), a, i) = rk) := by show _ = _; unfold comeR; rw [if_pos hout]
        rw [hout] at c38
        clear hout
        go_wp2_with fail
        go_roundw
        case rel => exact ⟨k + 1, rvk, by omega, by go_num, by rw [HNX.out, HC.out]; exact HOK.out⟩
        case measure => simp [intOf]; omega
      | false =>
        rw [hout] at c38
        cases hw : rk.waits (dt : Int) with
        | true =>
          have HC : Hid (comeR way rk ((dt : Int), a, i) = { rk with behind := setF rk.behind (dt : Int) (rk.behind (dt : Int) ++ [((dt : Int), a, i)]) }) := by show _ = _; unfold comeR; rw [if_neg (by rw [hout]; decide), if_pos hw]
          rw [hw] at c3'
          obtain ⟨ad5, c5, e5, -⟩ := tail_slice (HRUN.out.behind (d := dt) (by omega)) rfl
          obtain ⟨n5, hn5⟩ : ∃ n, (rk.behind (dt : Int)).length = n := ⟨_, rfl⟩
          rw [hn5] at e5
          have hn40 : n5 ≤ 40 := by
            have h2 := sum_le (f := rk.behind) (show (1 : Int) ≤ (dt : Int) by omega) (show (dt : Int) ≤ 6 by omega)
            have h3 := HGK.out.2.2
            omega
          have c31 := HRUN.out.c31 (d := dt) (by omega)
          rw [e5] at c31
          have hc31 : ∀ ob : Obj, (wr.alloc ob).cell? ⟨R, 31 + dt, none⟩ = some (.slice ad5 n5 c5) := fun ob => by rw [World.cell?_alloc_lt _ _ ⟨R, 31 + dt, none⟩ hRl]; exact c31
          have HV : Hid (Tail wr (R + 1) 43 3 (.slice ad5 n5 c5) n5 (flat (rk.behind (dt : Int)))) := by show Tail _ _ _ _ _ _ _; have := HRUN.out.behind (d := dt) (by omega); rw [e5, hn5] at this; exact this
          have HPT : Hid (∀ v2 w2 (ob : Obj), Tail w2 (R + 1) 43 3 v2 (n5 + 1) (flat (rk.behind (dt : Int)) ++ flat [((dt : Int), a, i)]) → (wr.drew.alloc ob).grownBy w2 (Value.slice ad5 n5 c5).ownBlock → (∀ g, v2.ownBlock = some g → (Value.slice ad5 n5 c5).ownBlock = some g ∨ (wr.drew.alloc ob).heap.size ≤ g) → w2.cell? ⟨R, 31 + dt, none⟩ = some (.slice ad5 n5 c5) ∧ w2.frozen? ⟨R, 31 + dt, none⟩ = false ∧ RunStep wr (w2.setCell ⟨R, 31 + dt, none⟩ v2) R way rvk { rk with behind := setF rk.behind (dt : Int) (rk.behind (dt : Int) ++ [((dt : Int), a, i)]) }) := fun v2 w2 ob h1 h2 h3 => by
            have htu : Turns (fun k => (rvk (dt + 4)).ownBlock = some k) wr w2 := by rw [e5]; exact turn_grown h2
            obtain ⟨k1, k2⟩ := HRUN.out.kept (i := dt + 4) (by omega) htu (31 + dt)
            refine ⟨k1.trans c31, k2, HRUN.out.setBehind (by omega) htu ?_ fun g hg => ?_⟩
            · rw [List.length_append, hn5, flat_append]; exact h1
            · rcases apart_later h3 g hg with h4 | h4
              · exact .inl (by rw [e5]; exact h4)
              · exact .inr h4
          have hR1 : R + 1 ≤ wr.heap.size := by omega
          clear hout hw
          go_wp2_with fail
          go_region_law (refine step_append_tail rfl (.tmp 42) (.tmp 47) 22 rfl (R + 1) 43 i0 (.agg #[.int .i64 0, .int .i64 0, .int .i64 0]) 3 24 Tryz.underlying22 HI.out.1 HI.out.2.1 HI.out.2.2.1 HI.out.2.2.2 rfl (by decide) (.slice ad5 n5 c5) n5 (flat (rk.behind (dt : Int))) (by simp [Act.eval]) (HV.out.same fun g hg => heap_alloc_lt wr.drew _ (HV.out.lt g hg).2) ⟨wr.heap.size, 0, none⟩ 1 1 (flat [((dt : Int), a, i)]) (by simp [Act.eval]) rfl (lock_new wr ((dt : Int), a, i) _) (flat_one _) (by unfold maxLen; omega) (by omega) (by simp; omega) ?_; intro v2 w2 hown2 hgr2 hap2; obtain ⟨g0, g1, g2⟩ := HPT.out v2 w2 _ hown2 hgr2 hap2; clear hap2 hgr2; obtain ⟨ad6, c6, rfl⟩ : ∃ ad c, v2 = .slice ad (n5 + 1) c := tail_shape hown2; have HK2 := hid_of2 g2; clear g2 hown2)
          all_goals
            have hst : RunStep wr (w2.setCell ⟨R, 31 + dt, none⟩ (.slice ad6 (n5 + 1) c6)) w.heap.size way rvk { rk with behind := setF rk.behind (dt : Int) (rk.behind (dt : Int) ++ [((dt : Int), a, i)]) } := by rw [← HRE.out]; exact HK2.out
            obtain ⟨rvb, hob⟩ := HOK.out.step hst
            have HOB := hid_of2 hob
            clear hst hob
            go_wp2_with fail
            go_roundw
            case rel => exact ⟨k + 1, rvb, by omega, by go_num, by rw [HNX.out, HC.out]; exact HOB.out⟩
            case measure => simp [intOf]; omega
        | false =>
          have HC : Hid (comeR way rk ((dt : Int), a, i) = doN way 41 rk ((dt : Int), a, i)) := by show _ = _; unfold comeR; rw [if_neg (by rw [hout]; decide), if_neg (by rw [hw]; decide)]
          have HPRE : Hid (pot rk ≤ 46 ∧ sum6 rk.behind < 41 ∧ rk.out (dt : Int) = false ∧ rk.waits (dt : Int) = false) := ⟨by have := HGK.out.2.1; omega, by have := HGK.out.2.2; omega, hout, hw⟩
          rw [hw] at c3'
          clear hout hw
          go_wp2_with fail
          refine (do_all way 41 R rk rvk ((dt : Int), a, i) wr HRUN.out HGK.out.1 HPRE.out.1 HPRE.out.2.1 HPRE.out.2.2.1 HPRE.out.2.2.2 HISO.out).mono ?_
          rintro e w2 ⟨rfl, hst⟩
          rw [HRE.out] at hst
          obtain ⟨rvb, hob⟩ := HOK.out.step hst
          have HOB := hid_of2 hob
          clear hst hob e0 e1 e2 c38 c3'
          go_wp2_with fail
          go_roundw
          case rel => exact ⟨k + 1, rvb, by omega, by go_num, by rw [HNX.out, HC.out]; exact HOB.out⟩
          case measure => simp [intOf]; omega
    · have hlt' : ¬ (k : Int) < (l.length : Int) := by omega
      obtain rfl : k = l.length := by omega
      have HEND : Hid (strictR way l = rk) := by show _ = _; rw [← hrk, List.take_length]
      have c45 := hrun.c45
      have c46 := hrun.c46
      obtain ⟨ad5, c5, e5, -⟩ := own_slice3 hrun.told
      obtain ⟨ad6, c6, e6, -⟩ := own_slice3 hrun.vict
      rw [e5] at c45
      rw [e6] at c46
      have HTO : Hid (∀ nq, IsOps (wr.drewN nq) (.slice ad5 rk.told.length c5) rk.told ∧ IsInts (wr.drewN nq) (.slice ad6 rk.vict.length c6) rk.vict ∧ Below w.heap.size w (wr.drewN nq)) := fun nq => by
        have hb := below_drewN (Below.refl wr.heap.size wr) nq
        have hr2 := HRUN.out.below hb
        refine ⟨?_, ?_, below_drewN HOK.out.old nq⟩
        · rw [← e5]; exact isOps_row hr2.told rfl
        · rw [← e6]; exact isInts_own hr2.vict rfl
      clear hok hgk hpk hsk hrk hrun e5 e6
      go_wp2_with fail
      go_quiet (fail)
      go_wp2_with fail
      go_ret2
      rw [HEND.out]
      exact ⟨_, _, rfl, HTO.out nq⟩
end Go.Proofs.YtjaeaanpbdmfgaeGreatDoor
