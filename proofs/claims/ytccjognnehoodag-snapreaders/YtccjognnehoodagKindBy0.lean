/-
  PROVED HERE: lanelaw2.seen gives what a deal saw of an outcome; lanelaw2.right says yes where an outcome's deals ask to commit, each once. Old memory stays as it was.
  Conditions: the lists are short.
-/
import Derived.Test.YtccjognnehoodagMgas
import Derived.Test.YtccjognnehoodagMgaq
import Derived.Test.YtccjognnehoodagMgao
import Derived.Test.YtccjognnehoodagLocksMem
import Derived.BigQuiet
import Derived.Deep.QuietTactic
import Derived.Deep.Cut
namespace Go.Proofs.Ytccjognnehoodag
open Go.RowKit

theorem hid_s {p : Prop} (h : p) : Hid p := h
theorem infoSeenS : (Try.prog.info? 60).map (fun i => (i.zero, i.size, i.bytes)) = some (some (.agg #[.int .i64 0, .int .i64 0, .int .i64 0]), 3, 24) := by kernel_rfl
theorem seen_one (w : World) (t a i : Int) : ∀ j u, (flat [(t, a, i)])[j]? = some u → (w.alloc (.cells #[.int .i64 t, .int .i64 a, .int .i64 i] 60)).cell? ((⟨w.heap.size, 0, none⟩ : Addr).add j) = some u := by
  intro j u hj
  rw [Addr.add_lit]
  rcases j with _ | _ | _ | j
  · simpa [flat] using hj
  · simpa [flat] using hj
  · simpa [flat] using hj
  · simp [flat] at hj
set_option maxHeartbeats 4000000 in
set_option maxRecDepth 100000 in
theorem seen_own (l : List Op3) (a1 v a3 : Value) (tx : Int) (w : World) (hI : IsOps w v l) (hlen : l.length ≤ 1000) (hs1 : ∃ ad n c, a1 = .slice ad n c) (hs3 : ∃ ad n c, a3 = .slice ad n c) :
    Calls Try.prog 43 #[.agg #[a1, v, a3], .int .i64 tx] w fun e w' => ∃ v', e = .returned v' ∧ w'.ownsRow w.heap.size 60 3 v' (l.filter (fun o : Op3 => o.1 == tx)).length (flat (l.filter (fun o : Op3 => o.1 == tx))) ∧ Below w.heap.size w w' := by
  obtain ⟨ad, b, off, cap, rfl, ha, hn, hbB, hops⟩ := hI
  obtain ⟨x1, y1, z1, rfl⟩ := hs1
  obtain ⟨x3, y3, z3, rfl⟩ := hs3
  clear hn
  obtain ⟨i0, hi, hz0, hs0, hy0⟩ := info_parts infoSeenS
  have HI : Hid (Try.prog.info? 60 = some i0 ∧ i0.zero = some (.agg #[.int .i64 0, .int .i64 0, .int .i64 0]) ∧ i0.size = 3 ∧ i0.bytes = 24) := ⟨hi, hz0, hs0, hy0⟩
  have HP : Hid (∀ W, Below (w.heap.size + 1) (w.alloc (.cells #[.slice x1 y1 z1, .slice ad l.length cap, .slice x3 y3 z3] 28)) W → W.cell? ⟨w.heap.size, 1, none⟩ = some (.slice ad l.length cap)) := fun W hW => by
    rw [hW.cell (p := ⟨w.heap.size, 1, none⟩) (by simp)]
    simp
  have HB0 : Hid (Below w.heap.size w (w.alloc (.cells #[.slice x1 y1 z1, .slice ad l.length cap, .slice x3 y3 z3] 28))) := (Below.refl _ w).alloc (Nat.le_refl _) _
  obtain ⟨W0, hW0⟩ : ∃ W, W = w.alloc (.cells #[.slice x1 y1 z1, .slice ad l.length cap, .slice x3 y3 z3] 28) := ⟨_, rfl⟩
  rw [← hW0] at HP HB0
  have hsz0 : W0.heap.size = w.heap.size + 1 := by rw [hW0]; simp
  rw [← hsz0] at HP
  obtain ⟨P, hP⟩ : ∃ P, P = w.heap.size := ⟨_, rfl⟩
  rw [← hP] at HP
  have HPE := hid_s hP
  clear hi hz0 hs0 hy0
  go_enter Try.func43, Try.ntmps43
  go_upto_region 2 with (fail)
  rw [← hW0, ← hP]
  clear hW0 hP hsz0
  go_wp2_with fail
  go_loopw [5, 6] (fun x1 x2 wr => ∃ k : Nat, k ≤ l.length ∧ x2 = .int .i64 k ∧ wr.ownsRow W0.heap.size 60 3 x1 ((l.take k).filter (fun o : Op3 => o.1 == tx)).length (flat ((l.take k).filter (fun o : Op3 => o.1 == tx))) ∧ Below W0.heap.size W0 wr) (fun _ x2 _ => l.length - (intOf x2).toNat)
  case atStart => exact ⟨0, Nat.zero_le _, rfl, World.ownsRow_nil _ _ _ _, Below.refl _ _⟩
  case round =>
    obtain ⟨k, hk, rfl, hown, hbel⟩ := hrel
    have hsz := hbel.size
    have hbw : Below w.heap.size w wr := HB0.out.trans (hbel.mono HB0.out.size)
    have cP := HP.out wr hbel
    by_cases hlt : k < l.length
    · obtain rfl := ha (by omega)
      have hlt' : (k : Int) < (l.length : Int) := by omega
      have hb1 : b < w.heap.size := by
        rcases hbB with h | h
        · exact h
        · subst h; simp at hlt
      obtain ⟨c0, c1, c2⟩ := (hops.below hbw (.inl hb1)) k hlt
      obtain ⟨⟨t, a, i⟩, ho⟩ : ∃ o : Op3, l.getD k (0, 0, 0) = o := ⟨_, rfl⟩
      rw [ho] at c0 c1 c2
      have HT : Hid (l.take (k + 1) = l.take k ++ [(t, a, i)]) := by
        show l.take (k + 1) = l.take k ++ [(t, a, i)]
        rw [List.take_succ_eq_append_getElem hlt, ← ho]; simp [List.getD, List.getElem?_eq_getElem hlt]
      have hkl := take_len (fun o : Op3 => o.1 == tx) l k
      clear ho hops ha hbB hbw
      simp only at c0 c1 c2
      obtain ⟨n, hn⟩ : ∃ n, ((l.take k).filter (fun o : Op3 => o.1 == tx)).length = n := ⟨_, rfl⟩
      have HN : Hid (((l.take k).filter (fun o : Op3 => o.1 == tx)).length = n) := hn
      rw [hn] at hown hkl
      have HOWN : Hid (wr.ownsRow W0.heap.size 60 3 u5 n (flat ((l.take k).filter (fun o : Op3 => o.1 == tx)))) := hown
      have HBL := hid_s hbel
      clear hn hown hbel
      cases hq : (fun o : Op3 => o.1 == tx) (t, a, i) with
      | false =>
        have HQ : Hid ((fun o : Op3 => o.1 == tx) (t, a, i) = false) := hq
        have hq' : (t == tx) = false := hq
        clear hq
        go_wp2_with (fail)
        go_roundw
        case rel => exact ⟨k + 1, by omega, by go_num, by rw [filter_drop (q := (fun o : Op3 => o.1 == tx)) HT.out HQ.out, HN.out]; exact HOWN.out, HBL.out⟩
        case measure => simp [intOf]; omega
      | true =>
        have HQ : Hid ((fun o : Op3 => o.1 == tx) (t, a, i) = true) := hq
        have hq' : (t == tx) = true := hq
        clear hq
        go_wp2_with (at_builtin; refine wpList_append_own _ rfl (.tmp 22) (.tmp 28) 26 rfl W0.heap.size 60 i0 (.agg #[.int .i64 0, .int .i64 0, .int .i64 0]) 3 24 Try.underlying26 HI.out.1 HI.out.2.1 HI.out.2.2.1 HI.out.2.2.2 rfl (by decide) u5 n (flat ((l.take k).filter (fun o : Op3 => o.1 == tx))) rfl (HOWN.out.alloc _) ⟨wr.heap.size, 0, none⟩ 1 1 (flat [(t, a, i)]) rfl rfl (seen_one _ t a i) (flat_one _) (by unfold maxLen; omega) (by omega) (by simp; omega) ?_; intro v1 w1 hown1 hgr1 hnil1)
        have hB1 := (HBL.out.alloc hsz _).grown hgr1 (by simp; omega) (fun m hm => (HOWN.out.lt m hm).1)
        go_roundw
        case rel => exact ⟨k + 1, by omega, by go_num, by rw [filter_keep (q := (fun o : Op3 => o.1 == tx)) HT.out HQ.out, List.length_append, HN.out, flat_append]; exact hown1, hB1⟩
        case measure => simp [intOf]; omega
    · have hlt' : ¬ (k : Int) < (l.length : Int) := by omega
      have HF : Hid (wr.ownsRow w.heap.size 60 3 u5 (l.filter (fun o : Op3 => o.1 == tx)).length (flat (l.filter (fun o : Op3 => o.1 == tx)))) := by
        show World.ownsRow _ _ _ _ _ _ _
        rw [List.take_of_length_le (by omega)] at hown
        exact own_less hown HB0.out.size
      have HBW := hid_s hbw
      obtain ⟨ad5, c5, rfl, -⟩ := own_slice3 hown
      clear hown hbel hbw
      go_wp2_with fail
      go_ret
      exact ⟨_, rfl, HF.out, HBW.out⟩
/-- Of whom an outcome tells. -/
def RightB (l : List Op3) (ds : List Int) : Prop := ds.Nodup ∧ ∀ t ∈ ds, endOf l t = 3
set_option maxHeartbeats 4000000 in
set_option maxRecDepth 100000 in
theorem right_any (l : List Op3) (v a1 a2 a3 : Value) (ds la : List Int) (w : World) (hI : IsOps w v l) (hlen : l.length ≤ 1000) (h1 : IsInts w a1 ds) (h3 : IsInts w a3 la) (hs2 : ∃ ad n c, a2 = .slice ad n c) (hroom : Room a1) (hl6 : ds.length ≤ 6) (hla : la.length = 6) (hr : RightB l ds) :
    Calls Try.prog 13 #[v, .agg #[a1, a2, a3]] w fun e w' => e = .returned (.bool true) ∧ Below w.heap.size w w' := by
  have HEN : Hid (∀ W, Below w.heap.size w W → ∀ t, Calls Try.prog 10 #[v, .int .i64 t, .int .i64 l.length] W fun e w' => e = .returned (.int .i64 (endOf l t)) ∧ w' = W) := fun W hW t => end_v l v t W (hI.below hW (Nat.le_refl _)) (by omega)
  have HI1 := hid_s h1
  obtain ⟨ad, b, off, cap, hv1, ha, hn1, hbB, hc⟩ := h1
  subst hv1
  obtain ⟨x3, y3, o3, z3, hv3, -⟩ := h3
  subst hv3
  obtain ⟨x2, y2, z2, rfl⟩ := hs2
  rw [hla]
  obtain ⟨ad0, b0, off0, cap0, hv0, -⟩ := hI
  subst hv0
  have HRB := hid_s hr
  obtain ⟨W0, hW0⟩ : ∃ W, W = w.alloc (.cells #[.slice ad ds.length cap, .slice x2 y2 z2, .slice x3 6 z3] 28) := ⟨_, rfl⟩
  have HB0 : Hid (Below w.heap.size w W0) := by show Below _ _ _; rw [hW0]; exact (Below.refl _ w).alloc (Nat.le_refl _) _
  have c0 : W0.cell? ⟨w.heap.size, 0, none⟩ = some (.slice ad ds.length cap) := by rw [hW0]; simp
  have c2 : W0.cell? ⟨w.heap.size, 2, none⟩ = some (.slice x3 6 z3) := by rw [hW0]; simp
  have HCE : Hid (∀ k, k < ds.length → ad = some ⟨b, off, none⟩ ∧ W0.cell? ⟨b, off + k, none⟩ = some (.int .i64 (ds.getD k 0))) := fun k hk => by
    have hb1 : b < w.heap.size := by
      rcases hbB with h | h
      · exact h
      · subst h; simp at hk
    exact ⟨ha (by omega), (HB0.out.cell (p := ⟨b, off + k, none⟩) hb1).trans (hc k hk)⟩
  have HTK : Hid (∀ k, k < ds.length → IsInts W0 (.slice ad k cap) (ds.take k)) := fun k hk => by
    have hb1 : b < w.heap.size := by
      rcases hbB with h | h
      · exact h
      · subst h; simp at hk
    have hkl : (ds.take k).length = k := by simp; omega
    refine ⟨ad, b, off, cap, by rw [hkl], fun _ => ha (by omega), fun h => ?_, .inl (Nat.lt_of_lt_of_le hb1 HB0.out.size), fun i hi => ?_⟩
    · rw [ha (by omega)] at h; cases h
    · rw [hkl] at hi
      rw [(HCE.out i (by omega)).2]
      simp [List.getD, hi]
  obtain ⟨P, hP⟩ : ∃ P, P = w.heap.size := ⟨_, rfl⟩
  rw [← hP] at c0 c2
  obtain ⟨dl, hdl⟩ : ∃ n, ds.length = n := ⟨_, rfl⟩
  have HDL := hid_s hdl
  rw [hdl] at c0 HCE HTK hl6 hW0
  rw [hdl]
  have hl6' : (dl : Int) ≤ 6 := by omega
  have hcp : dl ≤ cap := by
    obtain ⟨_, _, _, he, hle⟩ := hroom
    simp only [Value.slice.injEq] at he
    omega
  clear hbB hc ha hr hdl
  go_enter Try.func13, Try.ntmps13
  go_upto_region 1 with (fail)
  rw [← hW0, ← hP]
  clear hW0 hP
  go_wp2_with fail
  go_loopw [5] (fun v5 wr => ∃ k n : Nat, k ≤ dl ∧ v5 = .int .i64 k ∧ wr = W0.drewN n) (fun v5 _ => dl - (intOf v5).toNat)
  case atStart => exact ⟨0, 0, Nat.zero_le _, rfl, rfl⟩
  case round =>
    obtain ⟨k, n, hk, rfl, hwr⟩ := hrel
    have HWE := hid_s hwr
    have k0 : wr.cell? ⟨P, 0, none⟩ = some (.slice ad dl cap) := by rw [hwr]; exact c0
    have k2 : wr.cell? ⟨P, 2, none⟩ = some (.slice x3 6 z3) := by rw [hwr]; exact c2
    have HBW : Hid (Below w.heap.size w wr) := by show Below _ _ _; rw [hwr]; exact below_drewN HB0.out _
    by_cases hlt : k < dl
    · have hlt' : (k : Int) < (dl : Int) := by omega
      have hk0 : (0 : Int) ≤ (k : Int) := by omega
      have hkn : ¬ (k : Int) < 0 := by omega
      have hkle : (k : Int) ≤ (cap : Int) := by omega
      have hkle' : k ≤ cap := by omega
      obtain ⟨rfl, ce⟩ := HCE.out k hlt
      have ck : wr.cell? ⟨b, off + k, none⟩ = some (.int .i64 (ds.getD k 0)) := by rw [hwr]; exact ce
      have HIN : Hid (∀ m, Calls Try.prog 9 #[.slice (some ⟨b, off, none⟩) k cap, .int .i64 (ds.getD k 0)] (wr.drewN m) fun e w' => e = .returned (.bool (inB (ds.take k) (ds.getD k 0))) ∧ w' = wr.drewN m) := fun m => by
        refine in_any (ds.take k) _ _ _ ?_ (by simp; omega)
        rw [hwr]
        exact (HTK.out k hlt).below (below_drewN (below_drewN (Below.refl W0.heap.size W0) _) _) (Nat.le_refl _)
      have hnin : inB (ds.take k) (ds.getD k 0) = false := by
        have hkd : k < ds.length := by rw [HDL.out]; exact hlt
        have hnd := HRB.out.1
        have h9 : ds.getD k 0 = ds[k] := by simp [List.getD, List.getElem?_eq_getElem hkd]
        rw [h9]
        cases hb : inB (ds.take k) ds[k] with
        | false => rfl
        | true =>
          exfalso
          have hm : ds[k] ∈ ds.take k := by unfold inB at hb; simpa using hb
          have h8 : (ds.take (k + 1)).Nodup := hnd.sublist (List.take_sublist _ _)
          rw [List.take_succ_eq_append_getElem hkd, List.nodup_append] at h8
          exact h8.2.2 _ hm _ (List.mem_singleton.2 rfl) rfl
      have hend : endOf l (ds.getD k 0) = 3 := HRB.out.2 _ (by rw [List.getD_eq_getElem?_getD, List.getElem?_eq_getElem (by rw [HDL.out]; exact hlt)]; exact List.getElem_mem _)
      rw [hnin] at HIN
      obtain ⟨d, hd⟩ : ∃ d, ds.getD k 0 = d := ⟨_, rfl⟩
      rw [hd] at ck HIN hend
      have HEC : Hid (∀ W, Below w.heap.size w W → Calls Try.prog 10 #[.slice ad0 l.length cap0, .int .i64 d, .int .i64 l.length] W fun e w' => e = .returned (.int .i64 3) ∧ w' = W) := fun W hW => by
        have := HEN.out W hW d
        rw [hend] at this
        exact this
      clear hd hnin hend ce hwr
      go_upto_region 4 with (fail)
      go_quiet (first | (go_at_call 9; refine Calls.quiet_of_same (HIN.out _)))
      have HB4 : Hid (Below w.heap.size w (wr.drewN nq)) := below_drewN HBW.out _
      have HW4 : Hid (∃ m, wr.drewN nq = W0.drewN m) := ⟨n + nq, by rw [HWE.out, World.drewN_drewN]⟩
      obtain ⟨W4, hQ⟩ : ∃ Z : World, Z = wr.drewN nq := ⟨_, rfl⟩
      replace k0 : W4.cell? ⟨P, 0, none⟩ = some (.slice (some ⟨b, off, none⟩) dl cap) := by rw [hQ]; exact k0
      replace k2 : W4.cell? ⟨P, 2, none⟩ = some (.slice x3 6 z3) := by rw [hQ]; exact k2
      replace ck : W4.cell? ⟨b, off + k, none⟩ = some (.int .i64 d) := by rw [hQ]; exact ck
      rw [← hQ] at HB4 HW4 ⊢
      clear hQ HIN
      go_wp2_with fail
      refine (HEC.out W4 HB4.out).mono ?_
      rintro e w5 ⟨rfl, hw5⟩
      rw [hw5]
      clear hw5
      go_wp2_with fail
      go_roundw
      case rel =>
        obtain ⟨m, hm⟩ := HW4.out
        exact ⟨k + 1, m, by omega, by go_num, hm⟩
      case measure => simp [intOf]; omega
    · have hlt' : ¬ (k : Int) < (dl : Int) := by omega
      clear hwr
      go_wp2_with fail
      go_ret
      exact ⟨rfl, HBW.out⟩
end Go.Proofs.Ytccjognnehoodag
