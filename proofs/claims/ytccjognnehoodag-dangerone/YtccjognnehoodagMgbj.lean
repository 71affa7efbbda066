/-
  PROVED HERE: lanelaw2.seen gives what a deal saw of an outcome; lanelaw2.right says yes where an outcome's deals ask to commit, each once. Old memory stays as it was.
  Conditions: the lists are short.
  PROVED HERE: lanelaw4.RunsSerial answers true, of any numbers, over whatever keeps RunsC of chapters 11, 12, 13 and TogC.
  Conditions: RunsC, TogC.
-/
import Derived.Test.YtccjognnehoodagMgas
import Derived.Test.YtccjognnehoodagMgaq
import Derived.Test.YtccjognnehoodagMgao
import Derived.Test.YtccjognnehoodagMgaw
import Derived.BigQuiet
import Derived.Deep.QuietTactic
import Derived.Deep.Cut
import Derived.Test.YtccjognnehoodagMgbg
import Derived.Test.YtccjognnehoodagMgbh
import Derived.Test.YtccjognnehoodagMgau
import Derived.Test.YtccjognnehoodagMgbi
namespace Go.Proofs.Ytccjognnehoodag
open Go.RowKit

theorem hid_s {p : Prop} (h : p) : Hid p := h
theorem infoSeenS : (Try.prog.info? 60).map (fun i => (i.zero, i.size, i.bytes)) = some (some (.agg #[.int .i64 0, .int .i64 0, .int .i64 0]), 3, 24) := by kernel_rfl
theorem seen_one (w : World) (t a i : Int) : ∀ j u, (flat [(t, a, i)])[j]? = some u → (w.alloc (.cells #[.int .i64 t, .int .i64 a, .int .i64 i] 60)).cell? ((⟨w.heap.size, 0, none⟩ : Addr).add j) = some u := by
  intro j u hj
  rw [Addr.add_lit]
  rcases j with _ | _ | _ | j
  · simpa [flat] using hj
  · simpa [flat] using hj
  · simpa [flat] using hj
  · simp [flat] at hj
set_option maxHeartbeats 4000000 in
set_option maxRecDepth 100000 in
theorem seen_own (l : List Op3) (a1 v a3 : Value) (tx : Int) (w : World) (hI : IsOps w v l) (hlen : l.length ≤ 1000) (hs1 : ∃ ad n c, a1 = .slice ad n c) (hs3 : ∃ ad n c, a3 = .slice ad n c) :
    Calls Try.prog 43 #[.agg #[a1, v, a3], .int .i64 tx] w fun e w' => ∃ v', e = .returned v' ∧ w'.ownsRow w.heap.size 60 3 v' (l.filter (fun o : Op3 => o.1 == tx)).length (flat (l.filter (fun o : Op3 => o.1 == tx))) ∧ Below w.heap.size w w' := by
  obtain ⟨ad, b, off, cap, rfl, ha, hn, hbB, hops⟩ := hI
  obtain ⟨x1, y1, z1, rfl⟩ := hs1
  obtain ⟨x3, y3, z3, rfl⟩ := hs3
  clear hn
  obtain ⟨i0, hi, hz0, hs0, hy0⟩ := info_parts infoSeenS
  have HI : Hid (Try.prog.info? 60 = some i0 ∧ i0.zero = some (.agg #[.int .i64 0, .int .i64 0, .int .i64 0]) ∧ i0.size = 3 ∧ i0.bytes = 24) := ⟨hi, hz0, hs0, hy0⟩
  have HP : Hid (∀ W, Below (w.heap.size + 1) (w.alloc (.cells #[.slice x1 y1 z1, .slice ad l.length cap, .slice x3 y3 z3] 28)) W → W.cell? ⟨w.heap.size, 1, none⟩ = some (.slice ad l.length cap)) := fun W hW => by
    rw [hW.cell (p := ⟨w.heap.size, 1, none⟩) (by simp)]
    simp
  have HB0 : Hid (Below w.heap.size w (w.alloc (.cells #[.slice x1 y1 z1, .slice ad l.length cap, .slice x3 y3 z3] 28))) := (Below.refl _ w).alloc (Nat.le_refl _) _
  obtain ⟨W0, hW0⟩ : ∃ W, W = w.alloc (.cells #[.slice x1 y1 z1, .slice ad l.length cap, .slice x3 y3 z3] 28) := ⟨_, rfl⟩
  rw [← hW0] at HP HB0
  have hsz0 : W0.heap.size = w.heap.size + 1 := by rw [hW0]; simp
  rw [← hsz0] at HP
  obtain ⟨P, hP⟩ : ∃ P, P = w.heap.size := ⟨_, rfl⟩
  rw [← hP] at HP
  have HPE := hid_s hP
  clear hi hz0 hs0 hy0
  go_enter Try.func43, Try.ntmps43
  go_upto_region 2 with (fail)
  rw [← hW0, ← hP]
  clear hW0 hP hsz0
  go_wp2_with fail
  go_loopw [5, 6] (fun x1 x2 wr => ∃ k : Nat, k ≤ l.length ∧ x2 = .int .i64 k ∧ wr.ownsRow W0.heap.size 60 3 x1 ((l.take k).filter (fun o : Op3 => o.1 == tx)).length (flat ((l.take k).filter (fun o : Op3 => o.1 == tx))) ∧ Below W0.heap.size W0 wr) (fun _ x2 _ => l.length - (intOf x2).toNat)
  case atStart => exact ⟨0, Nat.zero_le _, rfl, World.ownsRow_nil _ _ _ _, Below.refl _ _⟩
  case round =>
    obtain ⟨k, hk, rfl, hown, hbel⟩ := hrel
    have hsz := hbel.size
    have hbw : Below w.heap.size w wr := HB0.out.trans (hbel.mono HB0.out.size)
    have cP := HP.out wr hbel
    by_cases hlt : k < l.length
    · obtain rfl := ha (by omega)
      have hlt' : (k : Int) < (l.length : Int) := by omega
      have hb1 : b < w.heap.size := by
        rcases hbB with h | h
        · exact h
        · subst h; simp at hlt
      obtain ⟨c0, c1, c2⟩ := (hops.below hbw (.inl hb1)) k hlt
      obtain ⟨⟨t, a, i⟩, ho⟩ : ∃ o : Op3, l.getD k (0, 0, 0) = o := ⟨_, rfl⟩
      rw [ho] at c0 c1 c2
      have HT : Hid (l.take (k + 1) = l.take k ++ [(t, a, i)]) := by
        show l.take (k + 1) = l.take k ++ [(t, a, i)]
        rw [List.take_succ_eq_append_getElem hlt, ← ho]; simp [List.getD, List.getElem?_eq_getElem hlt]
      have hkl := take_len (fun o : Op3 => o.1 == tx) l k
      clear ho hops ha hbB hbw
      simp only at c0 c1 c2
      obtain ⟨n, hn⟩ : ∃ n, ((l.take k).filter (fun o : Op3 => o.1 == tx)).length = n := ⟨_, rfl⟩
      have HN : Hid (((l.take k).filter (fun o : Op3 => o.1 == tx)).length = n) := hn
      rw [hn] at hown hkl
      have HOWN : Hid (wr.ownsRow W0.heap.size 60 3 u5 n (flat ((l.take k).filter (fun o : Op3 => o.1 == tx)))) := hown
      have HBL := hid_s hbel
      clear hn hown hbel
      cases hq : (fun o : Op3 => o.1 == tx) (t, a, i) with
      | false =>
        have HQ : Hid ((fun o : Op3 => o.1 == tx) (t, a, i) = false) := hq
        have hq' : (t == tx) = false := hq
        clear hq
        go_wp2_with (fail)
        go_roundw
        case rel => exact ⟨k + 1, by omega, by go_num, by rw [filter_drop (q := (fun o : Op3 => o.1 == tx)) HT.out HQ.out, HN.out]; exact HOWN.out, HBL.out⟩
        case measure => simp [intOf]; omega
      | true =>
        have HQ : Hid ((fun o : Op3 => o.1 == tx) (t, a, i) = true) := hq
        have hq' : (t == tx) = true := hq
        clear hq
        go_wp2_with (at_builtin; refine wpList_append_own _ rfl (.tmp 22) (.tmp 28) 26 rfl W0.heap.size 60 i0 (.agg #[.int .i64 0, .int .i64 0, .int .i64 0]) 3 24 Try.underlying26 HI.out.1 HI.out.2.1 HI.out.2.2.1 HI.out.2.2.2 rfl (by decide) u5 n (flat ((l.take k).filter (fun o : Op3 => o.1 == tx))) rfl (HOWN.out.alloc _) ⟨wr.heap.size, 0, none⟩ 1 1 (flat [(t, a, i)]) rfl rfl (seen_one _ t a i) (flat_one _) (by unfold maxLen; omega) (by omega) (by simp; omega) ?_; intro v1 w1 hown1 hgr1 hnil1)
        have hB1 := (HBL.out.alloc hsz _).grown hgr1 (by simp; omega) (fun m hm => (HOWN.out.lt m hm).1)
        go_roundw
        case rel => exact ⟨k + 1, by omega, by go_num, by rw [filter_keep (q := (fun o : Op3 => o.1 == tx)) HT.out HQ.out, List.length_append, HN.out, flat_append]; exact hown1, hB1⟩
        case measure => simp [intOf]; omega
    · have hlt' : ¬ (k : Int) < (l.length : Int) := by omega
      have HF : Hid (wr.ownsRow w.heap.size 60 3 u5 (l.filter (fun o : Op3 => o.1 == tx)).length (flat (l.filter (fun o : Op3 => o.1 == tx)))) := by
        show World.ownsRow _ _ _ _ _ _ _
        rw [List.take_of_length_le (by omega)] at hown
        exact own_less hown HB0.out.size
      have HBW := hid_s hbw
      obtain ⟨ad5, c5, rfl, -⟩ := own_slice3 hown
      clear hown hbel hbw
      go_wp2_with fail
      go_ret
      exact ⟨_, rfl, HF.out, HBW.out⟩
/-- Of whom an outcome tells. -/
def RightB (l : List Op3) (ds : List Int) : Prop := ds.Nodup ∧ ∀ t ∈ ds, endOf l t = 3
set_option maxHeartbeats 4000000 in
set_option maxRecDepth 100000 in
theorem right_any (l : List Op3) (v a1 a2 a3 : Value) (ds la : List Int) (w : World) (hI : IsOps w v l) (hlen : l.length ≤ 1000) (h1 : IsInts w a1 ds) (h3 : IsInts w a3 la) (hs2 : ∃ ad n c, a2 = .slice ad n c) (hroom : Room a1) (hl6 : ds.length ≤ 6) (hla : la.length = 6) (hr : RightB l ds) :
    Calls Try.prog 13 #[v, .agg #[a1, a2, a3]] w fun e w' => e = .returned (.bool true) ∧ Below w.heap.size w w' := by
  have HEN : Hid (∀ W, Below w.heap.size w W → ∀ t, Calls Try.prog 10 #[v, .int .i64 t, .int .i64 l.length] W fun e w' => e = .returned (.int .i64 (endOf l t)) ∧ w' = W) := fun W hW t => end_v l v t W (hI.below hW (Nat.le_refl _)) (by omega)
  have HI1 := hid_s h1
  obtain ⟨ad, b, off, cap, hv1, ha, hn1, hbB, hc⟩ := h1
  subst hv1
  obtain ⟨x3, y3, o3, z3, hv3, -⟩ := h3
  subst hv3
  obtain ⟨x2, y2, z2, rfl⟩ := hs2
  rw [hla]
  obtain ⟨ad0, b0, off0, cap0, hv0, -⟩ := hI
  subst hv0
  have HRB := hid_s hr
  obtain ⟨W0, hW0⟩ : ∃ W, W = w.alloc (.cells #[.slice ad ds.length cap, .slice x2 y2 z2, .slice x3 6 z3] 28) := ⟨_, rfl⟩
  have HB0 : Hid (Below w.heap.size w W0) := by show Below _ _ _; rw [hW0]; exact (Below.refl _ w).alloc (Nat.le_refl _) _
  have c0 : W0.cell? ⟨w.heap.size, 0, none⟩ = some (.slice ad ds.length cap) := by rw [hW0]; simp
  have c2 : W0.cell? ⟨w.heap.size, 2, none⟩ = some (.slice x3 6 z3) := by rw [hW0]; simp
  have HCE : Hid (∀ k, k < ds.length → ad = some ⟨b, off, none⟩ ∧ W0.cell? ⟨b, off + k, none⟩ = some (.int .i64 (ds.getD k 0))) := fun k hk => by
    have hb1 : b < w.heap.size := by
      rcases hbB with h | h
      · exact h
      · subst h; simp at hk
    exact ⟨ha (by omega), (HB0.out.cell (p := ⟨b, off + k, none⟩) hb1).trans (hc k hk)⟩
  have HTK : Hid (∀ k, k < ds.length → IsInts W0 (.slice ad k cap) (ds.take k)) := fun k hk => by
    have hb1 : b < w.heap.size := by
      rcases hbB with h | h
      · exact h
      · subst h; simp at hk
    have hkl : (ds.take k).length = k := by simp; omega
    refine ⟨ad, b, off, cap, by rw [hkl], fun _ => ha (by omega), fun h => ?_, .inl (Nat.lt_of_lt_of_le hb1 HB0.out.size), fun i hi => ?_⟩
    · rw [ha (by omega)] at h; cases h
    · rw [hkl] at hi
      rw [(HCE.out i (by omega)).2]
      simp [List.getD, hi]
  obtain ⟨P, hP⟩ : ∃ P, P = w.heap.size := ⟨_, rfl⟩
  rw [← hP] at c0 c2
  obtain ⟨dl, hdl⟩ : ∃ n, ds.length = n := ⟨_, rfl⟩
  have HDL := hid_s hdl
  rw [hdl] at c0 HCE HTK hl6 hW0
  rw [hdl]
  have hl6' : (dl : Int) ≤ 6 := by omega
  have hcp : dl ≤ cap := by
    obtain ⟨_, _, _, he, hle⟩ := hroom
    simp only [Value.slice.injEq] at he
    omega
  clear hbB hc ha hr hdl
  go_enter Try.func13, Try.ntmps13
  go_upto_region 1 with (fail)
  rw [← hW0, ← hP]
  clear hW0 hP
  go_wp2_with fail
  go_loopw [5] (fun v5 wr => ∃ k n : Nat, k ≤ dl ∧ v5 = .int .i64 k ∧ wr = W0.drewN n) (fun v5 _ => dl - (intOf v5).toNat)
  case atStart => exact ⟨0, 0, Nat.zero_le _, rfl, rfl⟩
  case round =>
    obtain ⟨k, n, hk, rfl, hwr⟩ := hrel
    have HWE := hid_s hwr
    have k0 : wr.cell? ⟨P, 0, none⟩ = some (.slice ad dl cap) := by rw [hwr]; exact c0
    have k2 : wr.cell? ⟨P, 2, none⟩ = some (.slice x3 6 z3) := by rw [hwr]; exact c2
    have HBW : Hid (Below w.heap.size w wr) := by show Below _ _ _; rw [hwr]; exact below_drewN HB0.out _
    by_cases hlt : k < dl
    · have hlt' : (k : Int) < (dl : Int) := by omega
      have hk0 : (0 : Int) ≤ (k : Int) := by omega
      have hkn : ¬ (k : Int) < 0 := by omega
      have hkle : (k : Int) ≤ (cap : Int) := by omega
      have hkle' : k ≤ cap := by omega
      obtain ⟨rfl, ce⟩ := HCE.out k hlt
      have ck : wr.cell? ⟨b, off + k, none⟩ = some (.int .i64 (ds.getD k 0)) := by rw [hwr]; exact ce
      have HIN : Hid (∀ m, Calls Try.prog 9 #[.slice (some ⟨b, off, none⟩) k cap, .int .i64 (ds.getD k 0)] (wr.drewN m) fun e w' => e = .returned (.bool (inB (ds.take k) (ds.getD k 0))) ∧ w' = wr.drewN m) := fun m => by
        refine in_any (ds.take k) _ _ _ ?_ (by simp; omega)
        rw [hwr]
        exact (HTK.out k hlt).below (below_drewN (below_drewN (Below.refl W0.heap.size W0) _) _) (Nat.le_refl _)
      have hnin : inB (ds.take k) (ds.getD k 0) = false := by
        have hkd : k < ds.length := by rw [HDL.out]; exact hlt
        have hnd := HRB.out.1
        have h9 : ds.getD k 0 = ds[k] := by simp [List.getD, List.getElem?_eq_getElem hkd]
        rw [h9]
        cases hb : inB (ds.take k) ds[k] with
        | false => rfl
        | true =>
          exfalso
          have hm : ds[k] ∈ ds.take k := by unfold inB at hb; simpa using hb
          have h8 : (ds.take (k + 1)).Nodup := hnd.sublist (List.take_sublist _ _)
          rw [List.take_succ_eq_append_getElem hkd, List.nodup_append] at h8
          exact h8.2.2 _ hm _ (List.mem_singleton.2 rfl) rfl
      have hend : endOf l (ds.getD k 0) = 3 := HRB.out.2 _ (by rw [List.getD_eq_getElem?_getD, List.getElem?_eq_getElem (by rw [HDL.out]; exact hlt)]; exact List.getElem_mem _)
      rw [hnin] at HIN
      obtain ⟨d, hd⟩ : ∃ d, ds.getD k 0 = d := ⟨_, rfl⟩
      rw [hd] at ck HIN hend
      have HEC : Hid (∀ W, Below w.heap.size w W → Calls Try.prog 10 #[.slice ad0 l.length cap0, .int .i64 d, .int .i64 l.length] W fun e w' => e = .returned (.int .i64 3) ∧ w' = W) := fun W hW => by
        have := HEN.out W hW d
        rw [hend] at this
        exact this
      clear hd hnin hend ce hwr
      go_upto_region 4 with (fail)
      go_quiet (first | (go_at_call 9; refine Calls.quiet_of_same (HIN.out _)))
      have HB4 : Hid (Below w.heap.size w (wr.drewN nq)) := below_drewN HBW.out _
      have HW4 : Hid (∃ m, wr.drewN nq = W0.drewN m) := ⟨n + nq, by rw [HWE.out, World.drewN_drewN]⟩
      obtain ⟨W4, hQ⟩ : ∃ Z : World, Z = wr.drewN nq := ⟨_, rfl⟩
      replace k0 : W4.cell? ⟨P, 0, none⟩ = some (.slice (some ⟨b, off, none⟩) dl cap) := by rw [hQ]; exact k0
      replace k2 : W4.cell? ⟨P, 2, none⟩ = some (.slice x3 6 z3) := by rw [hQ]; exact k2
      replace ck : W4.cell? ⟨b, off + k, none⟩ = some (.int .i64 d) := by rw [hQ]; exact ck
      rw [← hQ] at HB4 HW4 ⊢
      clear hQ HIN
      go_wp2_with fail
      refine (HEC.out W4 HB4.out).mono ?_
      rintro e w5 ⟨rfl, hw5⟩
      rw [hw5]
      clear hw5
      go_wp2_with fail
      go_roundw
      case rel =>
        obtain ⟨m, hm⟩ := HW4.out
        exact ⟨k + 1, m, by omega, by go_num, hm⟩
      case measure => simp [intOf]; omega
    · have hlt' : ¬ (k : Int) < (dl : Int) := by omega
      clear hwr
      go_wp2_with fail
      go_ret
      exact ⟨rfl, HBW.out⟩
end Go.Proofs.Ytccjognnehoodag

namespace Go.Proofs.Ytccjognnehoodag
open Go.RowKit

def lone4 : List Op3 := [(4, 3, 0)]
theorem lone_at (W : World) : IsOps (W.alloc (.cells #[.int .i64 4, .int .i64 3, .int .i64 0] 24)) (.slice (some ⟨W.heap.size, 0, none⟩) 1 1) lone4 := by
  refine ⟨_, W.heap.size, 0, 1, rfl, fun _ => rfl, fun h => (by cases h), .inl (by simp), fun i hi => ?_⟩
  have hi' : i < 1 := hi
  rcases i with _ | i
  · exact ⟨by simp [lone4], by simp [lone4], by simp [lone4]⟩
  · omega
theorem lone_done : (outU 1 okV false lone4).1.1 = [4] ∧ (outU 1 okV false lone4).2 = 0 := by decide
theorem ruser_out (v : Value) (a b : Int) (w : World) (hv : ∃ ad n c, v = .slice ad n c) (h : a < 1 ∨ 6 < a ∨ b < 1 ∨ 6 < b) :
    Calls Try.prog 5 #[v, .int .i64 a, .int .i64 b] w fun e w' => e = .returned (.bool true) ∧ Below w.heap.size w w' := by
  obtain ⟨ad, n, c, rfl⟩ := hv
  go_enter Try.func5, Try.ntmps5
  by_cases h1 : a < 1
  · clear h
    go_wp2_with fail
    go_ret
    exact ⟨rfl, Below.refl _ _⟩
  · by_cases h2 : 6 < a
    · clear h
      go_wp2_with fail
      go_ret
      exact ⟨rfl, Below.refl _ _⟩
    · by_cases h3 : b < 1
      · clear h
        go_wp2_with fail
        go_ret
        exact ⟨rfl, Below.refl _ _⟩
      · have h4 : 6 < b := by omega
        clear h
        go_wp2_with fail
        go_ret
        exact ⟨rfl, Below.refl _ _⟩
set_option maxHeartbeats 16000000 in
set_option maxRecDepth 100000 in
theorem ruser_in (hV : RunsC 16 1 okV false) (hS : RunsC 7 2 okS false) (hD : RunsC 11 3 okBtw false) (hT : TogC 18) (l : List Int) (v : Value) (a b : Int) (w : World) (hI : IsInts w v l) (hl : l.length ≤ 140737488355328) (ha : 1 ≤ a ∧ a ≤ 6) (hb : 1 ≤ b ∧ b ≤ 6) :
    Calls Try.prog 5 #[v, .int .i64 a, .int .i64 b] w fun e w' => e = .returned (.bool true) ∧ Below w.heap.size w w' := by
  have HP : Hid (∀ W, Below w.heap.size w W → Calls Try.prog 17 #[v, .int .i64 a, .int .i64 b] W fun e w' => ∃ ps, Deals1 ps ∧ ∃ v1 v2, e = .returned (.tuple #[v1, v2]) ∧ IsOps w' v1 (piecesL a b ps) ∧ IsInts w' v2 ps ∧ Below W.heap.size W w') := fun W hW => pieces_any l v a b W (hI.below hW (Nat.le_refl _)) hl
  have HONE : Hid (∀ W u, IsOps W u lone4 → Calls Try.prog 16 #[u] W fun e w' => ∃ g o c a2 a3, e = .returned (.tuple #[.agg #[.slice (some ⟨g, o, none⟩) 1 c, a2, a3], .nilIface]) ∧ w'.cell? ⟨g, o, none⟩ = some (.int .i64 4) ∧ (∃ ad n c, a2 = .slice ad n c) ∧ (∃ ad n c, a3 = .slice ad n c) ∧ Below W.heap.size W w') := fun W u hu => by
    refine (hV lone4 u W hu).mono ?_
    rintro e w' ⟨a1, a2, a3, he, hi1, hi2, hi3, -, hb⟩
    rw [lone_done.2] at he
    rw [lone_done.1] at hi1
    obtain ⟨x1, b1, o1, c1, rfl, h1, -, -, k1⟩ := hi1
    rw [h1 (by simp)] at he
    refine ⟨b1, o1, c1, a2, a3, he, by have := k1 0 (by simp); simpa using this, ?_, ?_, hb⟩
    · obtain ⟨ad, _, _, cap, hv, _⟩ := hi2; exact ⟨ad, _, cap, hv⟩
    · obtain ⟨ad, _, _, cap, hv, _⟩ := hi3; exact ⟨ad, _, cap, hv⟩
  have HRV : Hid (∀ (ps : List Int) (W : World) (u : Value), Deals1 ps → IsOps W u (piecesL a b ps) → Calls Try.prog 16 #[u] W fun e w' => ∃ a1 a2 a3, e = .returned (.tuple #[.agg #[a1, a2, a3], .nilIface]) ∧ OuIs w' a1 a2 a3 (outU 1 okV false (piecesL a b ps)).1 ∧ Below W.heap.size W w') := fun ps W u hd hu => by
    refine (hV _ u W hu).mono ?_
    rintro e w' ⟨a1, a2, a3, he, h1, h2, h3, -, hbe⟩
    rw [(ru_out ha hb hd).2.2.2.1] at he
    exact ⟨a1, a2, a3, he, ⟨h1, h2, h3⟩, hbe⟩
  have HRS : Hid (∀ (ps : List Int) (W : World) (u : Value), Deals1 ps → IsOps W u (piecesL a b ps) → Calls Try.prog 7 #[u] W fun e w' => ∃ a1 a2 a3, e = .returned (.tuple #[.agg #[a1, a2, a3], .nilIface]) ∧ OuIs w' a1 a2 a3 (outU 1 okV false (piecesL a b ps)).1 ∧ Below W.heap.size W w') := fun ps W u hd hu => by
    refine (hS _ u W hu).mono ?_
    rintro e w' ⟨a1, a2, a3, he, h1, h2, h3, -, hbe⟩
    rw [(ru_out ha hb hd).1] at he h1 h2 h3
    rw [(ru_out ha hb hd).2.2.2.1] at he
    exact ⟨a1, a2, a3, he, ⟨h1, h2, h3⟩, hbe⟩
  have HRD : Hid (∀ (ps : List Int) (W : World) (u : Value), Deals1 ps → IsOps W u (piecesL a b ps) → Calls Try.prog 11 #[u] W fun e w' => ∃ a1 a2 a3, e = .returned (.tuple #[.agg #[a1, a2, a3], .nilIface]) ∧ OuIs w' a1 a2 a3 (outU 1 okV false (piecesL a b ps)).1 ∧ Below W.heap.size W w') := fun ps W u hd hu => by
    refine (hD _ u W hu).mono ?_
    rintro e w' ⟨a1, a2, a3, he, h1, h2, h3, -, hbe⟩
    rw [(ru_out ha hb hd).2.1] at he h1 h2 h3
    rw [(ru_out ha hb hd).2.2.2.1] at he
    exact ⟨a1, a2, a3, he, ⟨h1, h2, h3⟩, hbe⟩
  have HTG : Hid (∀ (ps : List Int) (W : World) (u : Value), Deals1 ps → IsOps W u (piecesL a b ps) → Calls Try.prog 18 #[u] W fun e w' => ∃ ad c, e = .returned (.tuple #[.slice ad 0 c, .nilIface]) ∧ Below W.heap.size W w') := fun ps W u hd hu => by
    refine (hT _ u W hu).mono ?_
    rintro e w' ⟨v', he, hed, hbe⟩
    rw [(ru_out ha hb hd).2.2.2.2] at hed
    rw [pieces_chk ha hb hd] at he
    obtain ⟨ad, _, _, c, rfl, _⟩ := hed
    exact ⟨ad, c, he, hbe⟩
  have HLE : Hid (∀ ps : List Int, Deals1 ps → (outU 1 okV false (piecesL a b ps)).1.1 = ps ∧ ps.length ≤ 6 ∧ (outU 1 okV false (piecesL a b ps)).1.2.1.length ≤ 240 ∧ (outU 1 okV false (piecesL a b ps)).1.2.2.length ≤ 6) := fun ps hd => ⟨(ru_out ha hb hd).2.2.1, hd.len, (outU_len _ _ _ _).2.1, (outU_len _ _ _ _).2.2⟩
  have HST : Hid (∀ W W', Below w.heap.size w W → Below W.heap.size W W' → Below w.heap.size w W') := fun W W' h1 h2 => h1.trans (h2.mono h1.size)
  obtain ⟨a1x, a6⟩ := ha
  obtain ⟨b1x, b6⟩ := hb
  have na1 : ¬ a < 1 := by omega
  have na6 : ¬ 6 < a := by omega
  have nb1 : ¬ b < 1 := by omega
  have nb6 : ¬ 6 < b := by omega
  obtain ⟨ad, b0, off, cap, rfl, -⟩ := hI
  clear hV hS hD hT hl
  go_enter Try.func5, Try.ntmps5
  go_wp2_with fail
  have HB1 : Hid (Below w.heap.size w (w.alloc (.cells #[.int .i64 4, .int .i64 3, .int .i64 0] 24))) := (Below.refl _ w).alloc (Nat.le_refl _) _
  refine (HONE.out _ _ (lone_at w)).mono ?_
  rintro e w2 ⟨g, o, c, a2, a3, rfl, k1, ⟨x2, y2, z2, rfl⟩, ⟨x3, y3, z3, rfl⟩, hb2⟩
  have HB2 := hid_s (HST.out _ _ HB1.out hb2)
  clear hb2 HB1
  go_upto_region 4 with (fail)
  obtain ⟨W2, hW2⟩ : ∃ W, W = w2.alloc (.cells #[.slice (some ⟨g, o, none⟩) 1 c, .slice x2 y2 z2, .slice x3 y3 z3] 28) := ⟨_, rfl⟩
  rw [← hW2]
  have hbn : Below w2.heap.size w2 W2 := by rw [hW2]; exact (Below.refl _ w2).alloc (Nat.le_refl _) _
  have HB3 := hid_s (HST.out _ _ HB2.out hbn)
  have p0 : W2.cell? ⟨w2.heap.size, 0, none⟩ = some (.slice (some ⟨g, o, none⟩) 1 c) := by rw [hW2]; simp
  have k3 : W2.cell? ⟨g, o, none⟩ = some (.int .i64 4) := (hbn.cell (p := ⟨g, o, none⟩) (World.block_lt_of_cell? w2 _ k1)).trans k1
  obtain ⟨P, hP⟩ : ∃ P, P = w2.heap.size := ⟨_, rfl⟩
  rw [← hP] at p0 ⊢
  clear hW2 hP hbn k1
  go_upto_region 6 with (fail)
  clear p0 k3
  go_wp2_with fail
  refine (HP.out W2 HB3.out).mono ?_
  rintro e w3 ⟨ps, hd, v1, v2, rfl, h1, h2, hb3⟩
  obtain ⟨x1, y1, z1, rfl⟩ : ∃ ad n c, v1 = .slice ad n c := by obtain ⟨ad, _, _, cap, hv, _⟩ := h1; exact ⟨ad, _, cap, hv⟩
  obtain ⟨x4, y4, z4, rfl⟩ : ∃ ad n c, v2 = .slice ad n c := by obtain ⟨ad, _, _, cap, hv, _⟩ := h2; exact ⟨ad, _, cap, hv⟩
  have HH : Hid (∀ W, Below w3.heap.size w3 W → IsOps W (.slice x1 y1 z1) (piecesL a b ps) ∧ IsInts W (.slice x4 y4 z4) ps) := fun W hW => ⟨h1.below hW (Nat.le_refl _), h2.below hW (Nat.le_refl _)⟩
  have HDP := hid_s hd
  have HB4 := hid_s (HST.out _ _ HB3.out hb3)
  clear h1 h2 hd hb3
  go_wp2_with fail
  refine (HRV.out ps w3 _ HDP.out (HH.out w3 (Below.refl _ _)).1).mono ?_
  rintro e w4 ⟨a1, a2, a3, rfl, hou, hb4⟩
  obtain ⟨⟨p1, p2, p3, rfl⟩, ⟨p4, p5, p6, rfl⟩, ⟨p7, p8, p9, rfl⟩⟩ := hou.slices
  have HO4 := hid_s hou
  have HC4 := hid_s hb4
  clear hou hb4
  go_upto_region 8 with (fail)
  obtain ⟨W5, hW5⟩ : ∃ W, W = w4.alloc (.cells #[.slice p1 p2 p3, .slice p4 p5 p6, .slice p7 p8 p9] 28) := ⟨_, rfl⟩
  rw [← hW5]
  have hn5 : Below w4.heap.size w4 W5 := by rw [hW5]; exact (Below.refl _ w4).alloc (Nat.le_refl _) _
  have HX5 : Hid (ObAt W5 w4.heap.size (.slice p1 p2 p3) (.slice p4 p5 p6) (.slice p7 p8 p9)) := by show ObAt _ _ _ _ _; rw [hW5]; exact obAt_new _ _ _ _ _
  have HO5 := hid_s (HO4.out.below hn5)
  have HC5 : Hid (Below w3.heap.size w3 W5) := HC4.out.trans (hn5.mono HC4.out.size)
  obtain ⟨X, hX⟩ : ∃ X, X = w4.heap.size := ⟨_, rfl⟩
  rw [← hX] at HX5 ⊢
  clear hW5 hn5 hX
  go_wp2_with fail
  refine (HRS.out ps W5 _ HDP.out (HH.out W5 HC5.out).1).mono ?_
  rintro e w6 ⟨b1, b2, b3, rfl, hou, hb6⟩
  obtain ⟨⟨q1, q2, q3, rfl⟩, ⟨q4, q5, q6, rfl⟩, ⟨q7, q8, q9, rfl⟩⟩ := hou.slices
  have HS6 : Hid (OuIs w6 (.slice p1 p2 p3) (.slice p4 p5 p6) (.slice p7 p8 p9) (outU 1 okV false (piecesL a b ps)).1 ∧ OuIs w6 (.slice q1 q2 q3) (.slice q4 q5 q6) (.slice q7 q8 q9) (outU 1 okV false (piecesL a b ps)).1 ∧ ObAt w6 X (.slice p1 p2 p3) (.slice p4 p5 p6) (.slice p7 p8 p9) ∧ Below w3.heap.size w3 w6) := ⟨HO5.out.below hb6, hou, HX5.out.below hb6, HC5.out.trans (hb6.mono HC5.out.size)⟩
  clear hou hb6
  go_upto_region 9 with (fail)
  obtain ⟨W7, hW7⟩ : ∃ W, W = w6.alloc (.cells #[.slice q1 q2 q3, .slice q4 q5 q6, .slice q7 q8 q9] 28) := ⟨_, rfl⟩
  rw [← hW7]
  have hn7 : Below w6.heap.size w6 W7 := by rw [hW7]; exact (Below.refl _ w6).alloc (Nat.le_refl _) _
  have HY7 : Hid (ObAt W7 w6.heap.size (.slice q1 q2 q3) (.slice q4 q5 q6) (.slice q7 q8 q9)) := by show ObAt _ _ _ _ _; rw [hW7]; exact obAt_new _ _ _ _ _
  have HS7 : Hid (OuIs W7 (.slice p1 p2 p3) (.slice p4 p5 p6) (.slice p7 p8 p9) (outU 1 okV false (piecesL a b ps)).1 ∧ OuIs W7 (.slice q1 q2 q3) (.slice q4 q5 q6) (.slice q7 q8 q9) (outU 1 okV false (piecesL a b ps)).1 ∧ ObAt W7 X (.slice p1 p2 p3) (.slice p4 p5 p6) (.slice p7 p8 p9) ∧ Below w3.heap.size w3 W7) := ⟨HS6.out.1.below hn7, HS6.out.2.1.below hn7, HS6.out.2.2.1.below hn7, HS6.out.2.2.2.trans (hn7.mono HS6.out.2.2.2.size)⟩
  obtain ⟨Y, hY⟩ : ∃ Y, Y = w6.heap.size := ⟨_, rfl⟩
  rw [← hY] at HY7 ⊢
  clear hW7 hn7 hY
  go_wp2_with fail
  refine (HRD.out ps W7 _ HDP.out (HH.out W7 HS7.out.2.2.2).1).mono ?_
  rintro e w8 ⟨c1, c2, c3, rfl, hou, hb8⟩
  obtain ⟨⟨r1, r2, r3, rfl⟩, ⟨r4, r5, r6, rfl⟩, ⟨r7, r8, r9, rfl⟩⟩ := hou.slices
  have HS8 : Hid (OuIs w8 (.slice p1 p2 p3) (.slice p4 p5 p6) (.slice p7 p8 p9) (outU 1 okV false (piecesL a b ps)).1 ∧ OuIs w8 (.slice q1 q2 q3) (.slice q4 q5 q6) (.slice q7 q8 q9) (outU 1 okV false (piecesL a b ps)).1 ∧ OuIs w8 (.slice r1 r2 r3) (.slice r4 r5 r6) (.slice r7 r8 r9) (outU 1 okV false (piecesL a b ps)).1 ∧ ObAt w8 X (.slice p1 p2 p3) (.slice p4 p5 p6) (.slice p7 p8 p9) ∧ ObAt w8 Y (.slice q1 q2 q3) (.slice q4 q5 q6) (.slice q7 q8 q9) ∧ Below w3.heap.size w3 w8) := ⟨HS7.out.1.below hb8, HS7.out.2.1.below hb8, hou, HS7.out.2.2.1.below hb8, HY7.out.below hb8, HS7.out.2.2.2.trans (hb8.mono HS7.out.2.2.2.size)⟩
  clear hou hb8
  go_upto_region 10 with (fail)
  obtain ⟨W9, hW9⟩ : ∃ W, W = w8.alloc (.cells #[.slice r1 r2 r3, .slice r4 r5 r6, .slice r7 r8 r9] 28) := ⟨_, rfl⟩
  rw [← hW9]
  have hn9 : Below w8.heap.size w8 W9 := by rw [hW9]; exact (Below.refl _ w8).alloc (Nat.le_refl _) _
  have HZ9 : Hid (ObAt W9 w8.heap.size (.slice r1 r2 r3) (.slice r4 r5 r6) (.slice r7 r8 r9)) := by show ObAt _ _ _ _ _; rw [hW9]; exact obAt_new _ _ _ _ _
  obtain ⟨Z, hZ⟩ : ∃ Z, Z = w8.heap.size := ⟨_, rfl⟩
  rw [← hZ] at HZ9 ⊢
  have HS9 : Hid (∀ W, Below W9.heap.size W9 W → OuIs W (.slice p1 p2 p3) (.slice p4 p5 p6) (.slice p7 p8 p9) (outU 1 okV false (piecesL a b ps)).1 ∧ OuIs W (.slice q1 q2 q3) (.slice q4 q5 q6) (.slice q7 q8 q9) (outU 1 okV false (piecesL a b ps)).1 ∧ OuIs W (.slice r1 r2 r3) (.slice r4 r5 r6) (.slice r7 r8 r9) (outU 1 okV false (piecesL a b ps)).1 ∧ ObAt W X (.slice p1 p2 p3) (.slice p4 p5 p6) (.slice p7 p8 p9) ∧ ObAt W Y (.slice q1 q2 q3) (.slice q4 q5 q6) (.slice q7 q8 q9) ∧ ObAt W Z (.slice r1 r2 r3) (.slice r4 r5 r6) (.slice r7 r8 r9) ∧ Below w3.heap.size w3 W) := fun W hW =>
    ⟨(HS8.out.1.below hn9).below hW, (HS8.out.2.1.below hn9).below hW, (HS8.out.2.2.1.below hn9).below hW, (HS8.out.2.2.2.1.below hn9).below hW, (HS8.out.2.2.2.2.1.below hn9).below hW, HZ9.out.below hW, (HS8.out.2.2.2.2.2.trans (hn9.mono HS8.out.2.2.2.2.2.size)).trans (hW.mono (Nat.le_trans HS8.out.2.2.2.2.2.size hn9.size))⟩
  clear hW9 hn9 hZ
  go_wp2_with fail
  refine (HTG.out ps W9 _ HDP.out (HH.out W9 (HS9.out W9 (Below.refl _ _)).2.2.2.2.2.2).1).mono ?_
  rintro e w10 ⟨t1, t2, rfl, hb10⟩
  have H10 := hid_s hb10
  obtain ⟨-, -, -, ⟨u0, u1, u2⟩, -, -, -⟩ := HS9.out w10 hb10
  clear hb10
  go_wp2_with fail
  have hIp : IsInts w10 (.slice p1 p2 p3) ps := by have h9 := (HS9.out w10 H10.out).1.1; rw [(HLE.out ps HDP.out).1] at h9; exact h9
  refine (same_ints ps _ _ w10 hIp (HH.out w10 (HS9.out w10 H10.out).2.2.2.2.2.2).2 (by have := (HLE.out ps HDP.out).2.1; omega)).mono ?_
  rintro e w11 ⟨rfl, hb11⟩
  have H11 : Hid (Below W9.heap.size W9 w11) := H10.out.trans (hb11.mono H10.out.size)
  clear hb11 hIp u0 u1 u2
  obtain ⟨-, -, -, ⟨u0, u1, u2⟩, ⟨v0, v1, v2⟩, -, -⟩ := HS9.out w11 H11.out
  go_wp2_with fail
  have hso := HS9.out w11 H11.out
  have hle := HLE.out ps HDP.out
  refine (same_outcome _ _ _ _ _ _ _ _ _ w11 hso.1.1 hso.1.2.1 hso.1.2.2 hso.2.1.1 hso.2.1.2.1 hso.2.1.2.2 (by rw [hle.1]; omega) (by omega) (by omega)).mono ?_
  rintro e w12 ⟨rfl, hb12⟩
  have H12 : Hid (Below W9.heap.size W9 w12) := H11.out.trans (hb12.mono H11.out.size)
  clear hb12 hso hle u0 u1 u2 v0 v1 v2
  obtain ⟨-, -, -, ⟨u0, u1, u2⟩, -, ⟨v0, v1, v2⟩, -⟩ := HS9.out w12 H12.out
  go_wp2_with fail
  have hso := HS9.out w12 H12.out
  have hle := HLE.out ps HDP.out
  refine (same_outcome _ _ _ _ _ _ _ _ _ w12 hso.1.1 hso.1.2.1 hso.1.2.2 hso.2.2.1.1 hso.2.2.1.2.1 hso.2.2.1.2.2 (by rw [hle.1]; omega) (by omega) (by omega)).mono ?_
  rintro e w13 ⟨rfl, hb13⟩
  have H13 : Hid (Below w.heap.size w w13) := HST.out _ _ HB4.out ((HS9.out w13 (H12.out.trans (hb13.mono H12.out.size))).2.2.2.2.2.2)
  clear hb13 hso hle u0 u1 u2 v0 v1 v2
  go_wp2_with fail
  go_ret
  exact ⟨rfl, H13.out⟩
theorem ruser_any (hV : RunsC 16 1 okV false) (hS : RunsC 7 2 okS false) (hD : RunsC 11 3 okBtw false) (hT : TogC 18) (l : List Int) (v : Value) (a b : Int) (w : World) (hI : IsInts w v l) (hl : l.length ≤ 140737488355328) :
    Calls Try.prog 5 #[v, .int .i64 a, .int .i64 b] w fun e w' => e = .returned (.bool true) ∧ Below w.heap.size w w' := by
  by_cases h : a < 1 ∨ 6 < a ∨ b < 1 ∨ 6 < b
  · exact ruser_out v a b w (by obtain ⟨ad, _, _, cap, hv, _⟩ := hI; exact ⟨ad, _, cap, hv⟩) h
  · exact ruser_in hV hS hD hT l v a b w hI hl (by omega) (by omega)
end Go.Proofs.Ytccjognnehoodag
