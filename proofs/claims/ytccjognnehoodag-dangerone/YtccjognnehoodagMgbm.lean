/-
  PROVED HERE: lanelaw2.ValidSerial answers true, of any ops, over whatever keeps RunsC of chapter 11.
  Conditions: RunsC.
  PROVED HERE: lanelaw4.DangerOne answers true, of any ops and number, over whatever keeps AntC, PivC and RunsC of chapters 12 and 13.
  Conditions: AntC, PivC, RunsC; the list's length is one that memory can hold.
-/
import Derived.Test.YtccjognnehoodagMgbl
import Derived.Test.YtccjognnehoodagMgbd
import Derived.Test.YtccjognnehoodagMgbj
import Derived.Test.YtccjognnehoodagMgay
namespace Go.Proofs.Ytccjognnehoodag
open Go.RowKit

def four1 : List Op3 := [(1, 1, 1), (2, 2, 1), (2, 3, 0), (1, 3, 0)]
theorem four_at (W : World) : IsOps (W.alloc (.cells #[.int .i64 1, .int .i64 1, .int .i64 1, .int .i64 2, .int .i64 2, .int .i64 1, .int .i64 2, .int .i64 3, .int .i64 0, .int .i64 1, .int .i64 3, .int .i64 0] 24)) (.slice (some ⟨W.heap.size, 0, none⟩) 4 4) four1 := by
  refine ⟨some ⟨W.heap.size, 0, none⟩, W.heap.size, 0, 4, rfl, fun _ => rfl, fun h => (by cases h), .inl (by simp), opsAt_of fun j u hj => ?_⟩
  rw [Nat.zero_add]
  match j, hj with
  | 0, hj => simp [flat, four1] at hj; subst hj; simp
  | 1, hj => simp [flat, four1] at hj; subst hj; simp
  | 2, hj => simp [flat, four1] at hj; subst hj; simp
  | 3, hj => simp [flat, four1] at hj; subst hj; simp
  | 4, hj => simp [flat, four1] at hj; subst hj; simp
  | 5, hj => simp [flat, four1] at hj; subst hj; simp
  | 6, hj => simp [flat, four1] at hj; subst hj; simp
  | 7, hj => simp [flat, four1] at hj; subst hj; simp
  | 8, hj => simp [flat, four1] at hj; subst hj; simp
  | 9, hj => simp [flat, four1] at hj; subst hj; simp
  | 10, hj => simp [flat, four1] at hj; subst hj; simp
  | 11, hj => simp [flat, four1] at hj; subst hj; simp
  | k + 12, hj => simp [flat, four1] at hj
theorem four_done : (outU 1 okV false four1).1.1 = [2] ∧ (outU 1 okV false four1).2 = 0 := by decide
end Go.Proofs.Ytccjognnehoodag

namespace Go.Proofs.Ytccjognnehoodag
open Go.RowKit

theorem op_newD (w : World) (x : Op3) (t : TypeId) : ∀ j u, (flat [x])[j]? = some u → (w.alloc (.cells #[.int .i64 x.1, .int .i64 x.2.1, .int .i64 x.2.2] t)).cell? ((⟨w.heap.size, 0, none⟩ : Addr).add j) = some u := by
  intro j u hj
  rw [Addr.add_lit]
  obtain ⟨a, b, c⟩ := x
  rcases j with _ | _ | _ | j
  · simpa [flat] using hj
  · simpa [flat] using hj
  · simpa [flat] using hj
  · simp [flat] at hj
theorem da_four : antN four1 = [(1, 2)] ∧ (chk four1).2 = 0 := by decide
def keepW (tx : Int) (o : Op3) : Bool := o.2.1 != 2 || o.1 == tx
theorem da_one {l : List Op3} (h : (chk l).2 = 0) {tx : Int} (hw : ∀ o ∈ l, keepW tx o = true) : pivN l = [] ∧ outU 3 okBtw false l = outU 2 okS false l := by
  have hp := one_writes 2 okS h (tx := tx) fun o ho h2 => by
    have := hw o ho
    unfold keepW at this
    rw [h2] at this
    simpa using this
  have hK := run_kOk 2 okS h l.length (Nat.le_refl _)
  constructor
  · unfold pivN
    have hd : ∀ t ∈ (runK 2 okS l l.length).done, 1 ≤ t ∧ t ≤ 6 := fun t ht => ⟨(hK.comm t ht).2.1, (hK.comm t ht).2.2.1⟩
    rw [if_neg (by simpa using h), ← anti_ant hd]
    exact (piv_none hd).2 hp
  · rw [outU_ok h, outU_ok h, danger_snap h hp l.length (Nat.le_refl _)]
theorem keep_snoc {l : List Op3} {k : Nat} (hk : k < l.length) (q : Op3 → Bool) : (l.take (k + 1)).filter q = (l.take k).filter q ++ (if q (opAt l k) = true then [opAt l k] else []) := by
  rw [List.take_succ_eq_append_getElem hk, List.filter_append]
  have e : l[k] = opAt l k := by simp [opAt, List.getD, List.getElem?_eq_getElem hk]
  rw [e]
  congr 1
  cases hq : q (opAt l k) <;> simp [hq]
set_option maxHeartbeats 16000000 in
set_option maxRecDepth 100000 in
theorem daone_any (hA : AntC 20) (hP : PivC 12) (hD : RunsC 11 3 okBtw false) (hS : RunsC 7 2 okS false) (l : List Op3) (v : Value) (tx : Int) (w : World) (hI : IsOps w v l) (hl : l.length * 24 ≤ 140737488351232) :
    Calls Try.prog 6 #[v, .int .i64 tx] w fun e w' => e = .returned (.bool true) ∧ Below w.heap.size w w' := by
  have HONE : Hid (∀ W u, IsOps W u four1 → Calls Try.prog 20 #[u] W fun e w' => ∃ g o c, e = .returned (.tuple #[.slice (some ⟨g, o, none⟩) 1 c, .nilIface]) ∧ w'.cell? ⟨g, o, none⟩ = some (.int .i64 1) ∧ Below W.heap.size W w') := fun W u hu => by
    refine (hA four1 u W hu).mono ?_
    rintro e w' ⟨v', he, hed, hb⟩
    rw [da_four.2] at he
    rw [da_four.1] at hed
    obtain ⟨ad, g, o, c, rfl, h1, -, -, k1⟩ := hed
    rw [h1 (by simp)] at he
    exact ⟨g, o, c, he, by have := (k1 0 (by simp)).1; simpa using this, hb⟩
  have HPIV : Hid (∀ W u m, IsOps W u m → Calls Try.prog 12 #[u] W fun e w' => ∃ v', e = .returned (.tuple #[v', errV (chk m).2]) ∧ IsInts w' v' (pivN m) ∧ Below W.heap.size W w') := fun W u m hu => hP m u W hu
  have HRD : Hid (∀ W u m, IsOps W u m → Calls Try.prog 11 #[u] W fun e w' => ∃ a1 a2 a3, e = .returned (.tuple #[.agg #[a1, a2, a3], errV (outU 3 okBtw false m).2]) ∧ OuIs w' a1 a2 a3 (outU 3 okBtw false m).1 ∧ Below W.heap.size W w') := fun W u m hu => (hD m u W hu).mono fun e w' ⟨a1, a2, a3, he, h1, h2, h3, _, hb⟩ => ⟨a1, a2, a3, he, ⟨h1, h2, h3⟩, hb⟩
  have HRS : Hid (∀ W u m, IsOps W u m → Calls Try.prog 7 #[u] W fun e w' => ∃ a1 a2 a3, e = .returned (.tuple #[.agg #[a1, a2, a3], errV (outU 2 okS false m).2]) ∧ OuIs w' a1 a2 a3 (outU 2 okS false m).1 ∧ Below W.heap.size W w') := fun W u m hu => (hS m u W hu).mono fun e w' ⟨a1, a2, a3, he, h1, h2, h3, _, hb⟩ => ⟨a1, a2, a3, he, ⟨h1, h2, h3⟩, hb⟩
  have HST : Hid (∀ W W', Below w.heap.size w W → Below W.heap.size W W' → Below w.heap.size w W') := fun W W' h1 h2 => h1.trans (h2.mono h1.size)
  obtain ⟨i0, hi, hz0, hs0, hy0⟩ := info_parts infoOp
  have HI : Hid (Try.prog.info? 24 = some i0 ∧ i0.zero = some (.agg #[.int .i64 0, .int .i64 0, .int .i64 0]) ∧ i0.size = 3 ∧ i0.bytes = 24) := ⟨hi, hz0, hs0, hy0⟩
  obtain ⟨ad, b, off, cap, rfl, ha, -, hbB, hops⟩ := hI
  have HE : Hid (∀ W, Below w.heap.size w W → ∀ k, k < l.length → ad = some ⟨b, off, none⟩ ∧ b < w.heap.size ∧ W.cell? ⟨b, off + k * 3, none⟩ = some (.int .i64 (opAt l k).1) ∧ W.cell? ⟨b, off + k * 3 + 1, none⟩ = some (.int .i64 (opAt l k).2.1) ∧ W.cell? ⟨b, off + k * 3 + 2, none⟩ = some (.int .i64 (opAt l k).2.2)) := fun W hW k hk => by
    refine ⟨ha (by omega), ?_, (hops.below hW hbB) k hk⟩
    rcases hbB with h | h
    · exact h
    · subst h; simp at hk
  clear hA hP hD hS hi hz0 hs0 hy0 ha hbB hops
  go_enter Try.func6, Try.ntmps6
  go_wp2_with fail
  have HB1 : Hid (Below w.heap.size w (w.alloc (.cells #[.int .i64 1, .int .i64 1, .int .i64 1, .int .i64 2, .int .i64 2, .int .i64 1, .int .i64 2, .int .i64 3, .int .i64 0, .int .i64 1, .int .i64 3, .int .i64 0] 24))) := (Below.refl _ w).alloc (Nat.le_refl _) _
  refine (HONE.out _ _ (four_at w)).mono ?_
  rintro e w2 ⟨g, o, c, rfl, k1, hb2⟩
  have HB2 := hid_s (HST.out _ _ HB1.out hb2)
  clear hb2 HB1
  go_wp2_with fail
  clear k1
  go_loopw [7, 8] (fun v7 v8 wr => ∃ k : Nat, k ≤ l.length ∧ v8 = .int .i64 k ∧ wr.ownsRow w2.heap.size 24 3 v7 ((l.take k).filter (keepW tx)).length (flat ((l.take k).filter (keepW tx))) ∧ Below w2.heap.size w2 wr) (fun _ v8 _ => l.length - (intOf v8).toNat)
  case atStart => exact ⟨0, Nat.zero_le _, rfl, World.ownsRow_nil _ _ _ _, Below.refl _ _⟩
  case round =>
    obtain ⟨k, hk, rfl, hown, hbel⟩ := hrel
    obtain ⟨F, hF⟩ : ∃ F, (l.take k).filter (keepW tx) = F := ⟨_, rfl⟩
    have hFl : F.length ≤ k := by rw [← hF]; exact Nat.le_trans (List.length_filter_le _ _) (List.length_take_le _ _)
    rw [hF] at hown
    have HFE := hid_s hF
    obtain ⟨nf, hnf⟩ : ∃ n, F.length = n := ⟨_, rfl⟩
    rw [hnf] at hown hFl
    have HNF := hid_s hnf
    obtain ⟨ad7, c7, e7, -⟩ := own_slice3 hown
    subst e7
    have HOW := hid_s hown
    have HBE := hid_s hbel
    have HBW := hid_s (HST.out _ _ HB2.out hbel)
    clear hown hF hnf
    by_cases hlt : k < l.length
    · have hlt' : (k : Int) < (l.length : Int) := by omega
      have hk0 : (0 : Int) ≤ (k : Int) := by omega
      have hkn : ¬ (k : Int) < 0 := by omega
      obtain ⟨rfl, hbw, e0, e1, e2⟩ := HE.out wr HBW.out k hlt
      have hbr : b < wr.heap.size := Nat.lt_of_lt_of_le hbw HBW.out.size
      have HKS := hid_s (keep_snoc hlt (keepW tx))
      obtain ⟨⟨t, a, i⟩, ho⟩ : ∃ o : Op3, opAt l k = o := ⟨_, rfl⟩
      rw [ho] at e0 e1 e2 HKS
      simp only at e0 e1 e2
      rw [HFE.out] at HKS
      clear ho
      have hsz := hbel.size
      have hwk : IntKind.i64.wrap ((k : Int) + 1) = (k : Int) + 1 := by rw [IntKind.wrap_i64]; omega
      have HAP : Hid (keepW tx (t, a, i) = true → (l.take (k + 1)).filter (keepW tx) = F ++ [(t, a, i)]) := fun hq => by rw [HKS.out, if_pos hq]
      have HNO : Hid (keepW tx (t, a, i) = false → (l.take (k + 1)).filter (keepW tx) = F) := fun hq => by rw [HKS.out, if_neg (by rw [hq]; decide), List.append_nil]
      by_cases h2 : a = 2
      · have h2' : (a != 2) = false := by simpa using h2
        by_cases h3 : t = tx
        · have h3' : (t == tx) = true := by simpa using h3
          have HQ := hid_s (HAP.out (by unfold keepW; rw [h2', h3']; rfl))
          clear h2 h3 HAP HNO hbel
          go_wp2_with (at_builtin; refine wpList_append_own _ rfl (.tmp 59) (.tmp 64) 22 rfl w2.heap.size 24 i0 (.agg #[.int .i64 0, .int .i64 0, .int .i64 0]) 3 24 Try.underlying22 HI.out.1 HI.out.2.1 HI.out.2.2.1 HI.out.2.2.2 rfl (by decide) (.slice ad7 nf c7) nf (flat F) rfl (HOW.out.alloc _) ⟨wr.heap.size, 0, none⟩ 1 1 (flat [(t, a, i)]) rfl rfl (op_newD wr (t, a, i) _) (flat_one _) (by unfold maxLen; omega) (by omega) (by simp; omega) ?_; intro v1 w1 hown1 hgr1 hnil1)
          have HB9 : Hid (Below w2.heap.size w2 w1) := (HBE.out.alloc HBE.out.size _).grown hgr1 (by simp; omega) (fun q hq => (HOW.out.lt q hq).1)
          have HO9 : Hid (w1.ownsRow w2.heap.size 24 3 v1 (nf + 1) (flat F ++ flat [(t, a, i)])) := hown1
          clear hown1 hgr1 hnil1
          go_wp2_with fail
          go_roundw
          case rel => exact ⟨k + 1, by omega, by go_num, by rw [HQ.out, List.length_append, HNF.out, flat_append]; exact HO9.out, HB9.out⟩
          case measure => simp [intOf]; omega
        · have h3' : (t == tx) = false := by simpa using h3
          have HQ := hid_s (HNO.out (by unfold keepW; rw [h2', h3']; rfl))
          clear h2 h3 HAP HNO hbel
          go_wp2_with fail
          go_roundw
          case rel => exact ⟨k + 1, by omega, by go_num, by rw [HQ.out, HNF.out]; exact HOW.out, HBE.out⟩
          case measure => simp [intOf]; omega
      · have h2' : (a != 2) = true := by simpa using h2
        have HQ := hid_s (HAP.out (by unfold keepW; rw [h2']; rfl))
        clear h2 HAP HNO hbel
        go_wp2_with (at_builtin; refine wpList_append_own _ rfl (.tmp 59) (.tmp 64) 22 rfl w2.heap.size 24 i0 (.agg #[.int .i64 0, .int .i64 0, .int .i64 0]) 3 24 Try.underlying22 HI.out.1 HI.out.2.1 HI.out.2.2.1 HI.out.2.2.2 rfl (by decide) (.slice ad7 nf c7) nf (flat F) rfl (HOW.out.alloc _) ⟨wr.heap.size, 0, none⟩ 1 1 (flat [(t, a, i)]) rfl rfl (op_newD wr (t, a, i) _) (flat_one _) (by unfold maxLen; omega) (by omega) (by simp; omega) ?_; intro v1 w1 hown1 hgr1 hnil1)
        have HB9 : Hid (Below w2.heap.size w2 w1) := (HBE.out.alloc HBE.out.size _).grown hgr1 (by simp; omega) (fun q hq => (HOW.out.lt q hq).1)
        have HO9 : Hid (w1.ownsRow w2.heap.size 24 3 v1 (nf + 1) (flat F ++ flat [(t, a, i)])) := hown1
        clear hown1 hgr1 hnil1
        go_wp2_with fail
        go_roundw
        case rel => exact ⟨k + 1, by omega, by go_num, by rw [HQ.out, List.length_append, HNF.out, flat_append]; exact HO9.out, HB9.out⟩
        case measure => simp [intOf]; omega
    · have hlt' : ¬ (k : Int) < (l.length : Int) := by omega
      have HIO : Hid (∀ W, Below wr.heap.size wr W → IsOps W (.slice ad7 nf c7) F) := fun W hW => (isOps_row HOW.out HNF.out).below hW (Nat.le_refl _)
      have HKW : Hid (∀ o ∈ F, keepW tx o = true) := fun o ho => by rw [← HFE.out] at ho; exact (List.mem_filter.1 ho).2
      clear hbel
      by_cases hc : (chk F).2 = 0
      · have hev : errV (chk F).2 = .nilIface := by rw [hc]; exact if_pos rfl
        obtain ⟨z1, z2⟩ := da_one hc HKW.out
        have z3 : (outU 2 okS false F).2 = 0 := by rw [outU_ok hc]
        have z4 : errV (outU 2 okS false F).2 = .nilIface := by rw [z3]; exact if_pos rfl
        have HP0 := hid_s (HPIV.out wr _ F (HIO.out wr (Below.refl _ _)))
        rw [hev, z1] at HP0
        have HD0 : Hid (∀ W, Below wr.heap.size wr W → Calls Try.prog 11 #[.slice ad7 nf c7] W fun e w' => ∃ a1 a2 a3, e = .returned (.tuple #[.agg #[a1, a2, a3], .nilIface]) ∧ OuIs w' a1 a2 a3 (outU 2 okS false F).1 ∧ Below W.heap.size W w') := fun W hW => by have h9 := HRD.out W _ F (HIO.out W hW); rw [z2, z4] at h9; exact h9
        have HS0 : Hid (∀ W, Below wr.heap.size wr W → Calls Try.prog 7 #[.slice ad7 nf c7] W fun e w' => ∃ a1 a2 a3, e = .returned (.tuple #[.agg #[a1, a2, a3], .nilIface]) ∧ OuIs w' a1 a2 a3 (outU 2 okS false F).1 ∧ Below W.heap.size W w') := fun W hW => by have h9 := HRS.out W _ F (HIO.out W hW); rw [z4] at h9; exact h9
        have HUL := hid_s (outU_len 2 okS false F)
        clear hev z1 z2 z3 z4 hc
        go_wp2_with fail
        refine HP0.out.mono ?_
        rintro e w4 ⟨v4, rfl, hi4, hb4⟩
        obtain ⟨x4, b4, o4, c4, rfl, -⟩ := hi4
        have H4 := hid_s hb4
        clear hb4
        go_wp2_with fail
        refine (HD0.out w4 H4.out).mono ?_
        rintro e w5 ⟨a1, a2, a3, rfl, hou, hb5⟩
        obtain ⟨⟨p1, p2, p3, rfl⟩, ⟨p4, p5, p6, rfl⟩, ⟨p7, p8, p9, rfl⟩⟩ := hou.slices
        have HO5 := hid_s hou
        have H5 : Hid (Below wr.heap.size wr w5) := H4.out.trans (hb5.mono H4.out.size)
        clear hou hb5
        go_upto_region 14 with (fail)
        obtain ⟨W6, hW6⟩ : ∃ W, W = w5.alloc (.cells #[.slice p1 p2 p3, .slice p4 p5 p6, .slice p7 p8 p9] 28) := ⟨_, rfl⟩
        rw [← hW6]
        have hn6 : Below w5.heap.size w5 W6 := by rw [hW6]; exact (Below.refl _ w5).alloc (Nat.le_refl _) _
        have HX6 : Hid (ObAt W6 w5.heap.size (.slice p1 p2 p3) (.slice p4 p5 p6) (.slice p7 p8 p9)) := by show ObAt _ _ _ _ _; rw [hW6]; exact obAt_new _ _ _ _ _
        have HO6 := hid_s (HO5.out.below hn6)
        have H6 : Hid (Below wr.heap.size wr W6) := H5.out.trans (hn6.mono H5.out.size)
        obtain ⟨X, hX⟩ : ∃ X, X = w5.heap.size := ⟨_, rfl⟩
        rw [← hX] at HX6 ⊢
        clear hW6 hn6 hX
        go_wp2_with fail
        refine (HS0.out W6 H6.out).mono ?_
        rintro e w7 ⟨b1, b2, b3, rfl, hou, hb7⟩
        obtain ⟨⟨q1, q2, q3, rfl⟩, ⟨q4, q5, q6, rfl⟩, ⟨q7, q8, q9, rfl⟩⟩ := hou.slices
        have HS7 : Hid (OuIs w7 (.slice p1 p2 p3) (.slice p4 p5 p6) (.slice p7 p8 p9) (outU 2 okS false F).1 ∧ OuIs w7 (.slice q1 q2 q3) (.slice q4 q5 q6) (.slice q7 q8 q9) (outU 2 okS false F).1 ∧ ObAt w7 X (.slice p1 p2 p3) (.slice p4 p5 p6) (.slice p7 p8 p9) ∧ Below wr.heap.size wr w7) := ⟨HO6.out.below hb7, hou, HX6.out.below hb7, H6.out.trans (hb7.mono H6.out.size)⟩
        clear hou hb7
        go_upto_region 15 with (fail)
        obtain ⟨W8, hW8⟩ : ∃ W, W = w7.alloc (.cells #[.slice q1 q2 q3, .slice q4 q5 q6, .slice q7 q8 q9] 28) := ⟨_, rfl⟩
        rw [← hW8]
        have hn8 : Below w7.heap.size w7 W8 := by rw [hW8]; exact (Below.refl _ w7).alloc (Nat.le_refl _) _
        obtain ⟨y0, y1, y2⟩ : ObAt W8 w7.heap.size (.slice q1 q2 q3) (.slice q4 q5 q6) (.slice q7 q8 q9) := by rw [hW8]; exact obAt_new _ _ _ _ _
        obtain ⟨u0, u1, u2⟩ := HS7.out.2.2.1.below hn8
        have HS8 : Hid (OuIs W8 (.slice p1 p2 p3) (.slice p4 p5 p6) (.slice p7 p8 p9) (outU 2 okS false F).1 ∧ OuIs W8 (.slice q1 q2 q3) (.slice q4 q5 q6) (.slice q7 q8 q9) (outU 2 okS false F).1 ∧ Below wr.heap.size wr W8) := ⟨HS7.out.1.below hn8, HS7.out.2.1.below hn8, HS7.out.2.2.2.trans (hn8.mono HS7.out.2.2.2.size)⟩
        obtain ⟨Y, hY⟩ : ∃ Y, Y = w7.heap.size := ⟨_, rfl⟩
        rw [← hY] at y0 y1 y2 ⊢
        clear hW8 hn8 hY
        go_wp2_with fail
        have hle := HUL.out
        refine (same_outcome _ _ _ _ _ _ _ _ _ W8 HS8.out.1.1 HS8.out.1.2.1 HS8.out.1.2.2 HS8.out.2.1.1 HS8.out.2.1.2.1 HS8.out.2.1.2.2 (by omega) (by omega) (by omega)).mono ?_
        rintro e w9 ⟨rfl, hb9⟩
        have H9 : Hid (Below w.heap.size w w9) := HST.out _ _ HBW.out (HS8.out.2.2.trans (hb9.mono HS8.out.2.2.size))
        clear hb9 hle u0 u1 u2 y0 y1 y2
        go_wp2_with fail
        go_ret
        exact ⟨rfl, H9.out⟩
      · have hev := errV_ne hc
        have HP0 := hid_s (HPIV.out wr _ F (HIO.out wr (Below.refl _ _)))
        rw [hev] at HP0
        obtain ⟨ce, hce⟩ : ∃ ce, (chk F).2 = ce := ⟨_, rfl⟩
        rw [hce] at HP0
        clear hev hc hce
        go_wp2_with fail
        refine HP0.out.mono ?_
        rintro e w4 ⟨v4, rfl, hi4, hb4⟩
        obtain ⟨x4, b4, o4, c4, rfl, -⟩ := hi4
        have H4 : Hid (Below w.heap.size w w4) := HST.out _ _ HBW.out hb4
        clear hb4
        go_wp2_with fail
        go_ret
        exact ⟨rfl, H4.out⟩
end Go.Proofs.Ytccjognnehoodag
