/-
  PROVED HERE: lanelaw1.FacesNest returns true, whatever the list of ops; old memory stays as it was.
  Conditions: the slice is no longer than its capacity.
-/
import Derived.Test.YtlhkjllpgdhnjacFacesOf2
import Derived.Test.YtlhkjllpgdhnjacSerSerial
import Derived.Test.YtlhkjllpgdhnjacOddSameWalk
namespace Go.Proofs.Ytlhkjllpgdhnjac
open Go.RowKit

theorem three_ops_at (w : World) : OpsAt (w.alloc (.cells #[.int .i64 1, .int .i64 2, .int .i64 1, .int .i64 2, .int .i64 1, .int .i64 1, .int .i64 2, .int .i64 3, .int .i64 0] 24)) w.heap.size 0 [(1, 2, 1), (2, 1, 1), (2, 3, 0)] := by
  intro i hi
  match i, hi with
  | 0, _ => simp
  | 1, _ => simp
  | 2, _ => simp
theorem fact_three : chk [(1, 2, 1), (2, 1, 1), (2, 3, 0)] = (0, 0) ∧ recB [(1, 2, 1), (2, 1, 1), (2, 3, 0)] = false ∧ cauB [(1, 2, 1), (2, 1, 1), (2, 3, 0)] = false ∧ strB [(1, 2, 1), (2, 1, 1), (2, 3, 0)] = false ∧ rigB [(1, 2, 1), (2, 1, 1), (2, 3, 0)] = false := by decide
theorem fact_one : chk [(1, 2, 1)] = (0, 0) ∧ recB [(1, 2, 1)] = true ∧ cauB [(1, 2, 1)] = true ∧ strB [(1, 2, 1)] = true ∧ rigB [(1, 2, 1)] = true := by decide
theorem fof_three (w : World) (b : Nat) (hb : b = w.heap.size) :
    Calls Try.prog 7 #[.slice (some ⟨b, 0, none⟩) 3 3] (w.alloc (.cells #[.int .i64 1, .int .i64 2, .int .i64 1, .int .i64 2, .int .i64 1, .int .i64 1, .int .i64 2, .int .i64 3, .int .i64 0] 24)) fun e w' => e = .returned (.tuple #[.agg #[.bool false, .bool false, .bool false, .bool false], .nilIface]) ∧ Below w.heap.size w w' ∧ OpsAt w' w.heap.size 0 [(1, 2, 1), (2, 1, 1), (2, 3, 0)] ∧ w.heap.size < w'.heap.size := by
  subst hb
  obtain ⟨f0, f1, f2, f3, f4⟩ := fact_three
  have h1 := fof_ok [(1, 2, 1), (2, 1, 1), (2, 3, 0)] (some ⟨w.heap.size, 0, none⟩) 3 _ ⟨some ⟨w.heap.size, 0, none⟩, w.heap.size, 0, 3, rfl, fun _ => rfl, fun h => (by cases h), .inl (by simp), three_ops_at w⟩ (by decide) (by rw [f0])
  rw [f1, f2, f3, f4] at h1
  refine h1.mono ?_
  rintro e w' ⟨he, hb'⟩
  refine ⟨he, ((Below.refl _ w).alloc (Nat.le_refl _) _).trans (hb'.mono (by simp)), (three_ops_at w).below hb' (.inl (by simp)), ?_⟩
  have := hb'.size
  simp at this
  omega
theorem fof_one (w : World) (b : Nat) (hat : OpsAt w b 0 [(1, 2, 1), (2, 1, 1), (2, 3, 0)]) (hb : b < w.heap.size) :
    Calls Try.prog 7 #[.slice (some ⟨b, 0, none⟩) 1 3] w fun e w' => e = .returned (.tuple #[.agg #[.bool true, .bool true, .bool true, .bool true], .nilIface]) ∧ Below w.heap.size w w' := by
  obtain ⟨f0, f1, f2, f3, f4⟩ := fact_one
  have h1 := fof_ok [(1, 2, 1)] (some ⟨b, 0, none⟩) 3 w ⟨some ⟨b, 0, none⟩, b, 0, 3, rfl, fun _ => rfl, fun h => (by cases h), .inl hb, fun i hi => by
    have hi0 : i = 0 := by simp at hi; omega
    subst hi0
    exact hat 0 (by decide)⟩ (by decide) (by rw [f0])
  rw [f1, f2, f3, f4] at h1
  exact h1
/-- The deals that commit among the first k. -/
def cmtTo (l : List Op3) (k : Nat) : List Int := comL (l.take k)
theorem cmtTo_yes {l : List Op3} {k : Nat} (hk : k < l.length) {t x : Int} (h : opAt l k = (t, 3, x)) : cmtTo l (k + 1) = cmtTo l k ++ [t] := by
  unfold cmtTo comL
  rw [List.take_succ_eq_append_getElem hk, ← opAt_get hk, h, List.filter_append, List.map_append]
  simp
theorem cmtTo_no {l : List Op3} {k : Nat} (hk : k < l.length) {t a x : Int} (h : opAt l k = (t, a, x)) (ha : (a == 3) = false) : cmtTo l (k + 1) = cmtTo l k := by
  unfold cmtTo comL
  rw [List.take_succ_eq_append_getElem hk, ← opAt_get hk, h, List.filter_append, List.map_append]
  simp [ha]
theorem cmtTo_len (l : List Op3) (k : Nat) : (cmtTo l k).length ≤ k := by
  unfold cmtTo comL
  rw [List.length_map]
  have h1 := List.length_filter_le (fun o : Op3 => o.2.1 == 3) (l.take k)
  have h2 : (l.take k).length ≤ k := List.length_take_le _ _
  omega
theorem int_cells (t : Int) : ∀ u ∈ [t].map (Value.int .i64), u.oneCell' = true := fun u hu => by
  simp only [List.map_cons, List.map_nil, List.mem_singleton] at hu
  rw [hu]; rfl
theorem one_int (w : World) (t : Int) : ∀ j u, ([t].map (Value.int .i64))[j]? = some u → (w.alloc (.cells #[.int .i64 t] 3)).cell? ((⟨w.heap.size, 0, none⟩ : Addr).add j) = some u := by
  intro j u hj
  match j, hj with
  | 0, hj => simp at hj; subst hj; simp [Addr.add]
  | k + 1, hj => simp at hj
set_option maxHeartbeats 8000000 in
set_option maxRecDepth 100000 in
theorem nest_bad (l : List Op3) (ad : Option Addr) (cap : Nat) (w : World) (h : IsOps w (.slice ad l.length cap) l) (hc : (chk l).2 ≠ 0) :
    Calls Try.prog 3 #[.slice ad l.length cap] w fun e w' => e = .returned (.bool true) ∧ Below w.heap.size w w' := by
  have HOF : Hid (∀ W, Below w.heap.size w W → Calls Try.prog 7 #[.slice ad l.length cap] W fun e w' => ∃ c, e = .returned (.tuple #[.agg #[.bool false, .bool false, .bool false, .bool false], .iface 70 (.int .i64 c)]) ∧ Below W.heap.size W w') := fun W hW => (fof_bad l _ W (h.below hW (Nat.le_refl _)) hc).mono fun e w' ⟨h1, h2⟩ => ⟨_, h1, h2⟩
  clear hc h
  go_enter Try.func3, Try.ntmps3
  go_wp2_with fail
  refine (fof_three _ _ (by simp)).mono ?_
  rintro e w1 ⟨rfl, hb1, hat, hs1⟩
  have HB1 : Hid (Below w.heap.size w w1) := hb1
  have HAT : Hid (OpsAt w1 w.heap.size 0 [(1, 2, 1), (2, 1, 1), (2, 3, 0)]) := hat
  clear hb1 hat
  go_wp2_with fail
  refine (fof_one _ _ (HAT.out.below ((Below.refl _ w1).alloc (Nat.le_refl _) _) (.inl hs1)) (by simp; omega)).mono ?_
  rintro e w2 ⟨rfl, hb2⟩
  have HB2 : Hid (Below w.heap.size w w2) := (HB1.out.alloc HB1.out.size _).trans (hb2.mono (by have := HB1.out.size; simp; omega))
  clear hb2 HAT hs1
  go_wp2_with fail
  refine (HOF.out _ (HB2.out.alloc HB2.out.size _)).mono ?_
  rintro e w3 ⟨c, rfl, hb3⟩
  have HB3 : Hid (Below w.heap.size w w3) := (HB2.out.alloc HB2.out.size _).trans (hb3.mono (by have := HB2.out.size; simp; omega))
  clear hb3
  go_wp2_with fail
  go_ret
  exact ⟨rfl, HB3.out.alloc HB3.out.size _⟩
set_option maxHeartbeats 16000000 in
set_option maxRecDepth 100000 in
theorem nest_ok (l : List Op3) (ad : Option Addr) (cap : Nat) (w : World) (h : IsOps w (.slice ad l.length cap) l) (hcap : l.length ≤ cap) (hc : (chk l).2 = 0) :
    Calls Try.prog 3 #[.slice ad l.length cap] w fun e w' => e = .returned (.bool true) ∧ Below w.heap.size w w' := by
  have hl := chk_len hc
  have HI : Hid (∀ W, Below w.heap.size w W → IsOps W (.slice ad l.length cap) l) := fun W hW => h.below hW (Nat.le_refl _)
  obtain ⟨r, hr⟩ : ∃ x, recB l = x := ⟨_, rfl⟩
  obtain ⟨c, hcc⟩ : ∃ x, cauB l = x := ⟨_, rfl⟩
  obtain ⟨s, hs⟩ : ∃ x, strB l = x := ⟨_, rfl⟩
  obtain ⟨g, hg⟩ : ∃ x, rigB l = x := ⟨_, rfl⟩
  have HN1 : Hid (g = true → s = true) := fun e => hs ▸ rig_str (hg.trans e)
  have HN2 : Hid (s = true → c = true) := fun e => hcc ▸ str_cau (chk_ops hc) (hs.trans e)
  have HN3 : Hid (c = true → r = true) := fun e => hr ▸ cau_rec ((chk_iff l).1 hc).2.2 (hcc.trans e)
  have HOF : Hid (∀ W, Below w.heap.size w W → Calls Try.prog 7 #[.slice ad l.length cap] W fun e w' => e = .returned (.tuple #[.agg #[.bool r, .bool c, .bool s, .bool g], .nilIface]) ∧ Below W.heap.size W w') := fun W hW => by
    have h1 := fof_ok l ad cap W (HI.out W hW) hcap hc
    rw [hr, hcc, hs, hg] at h1
    exact h1
  have HSAME : Hid (g = true → sortI (comL l) = dealsL (doneL l) ∧ sameB (alongL (doneL l) (comL l)) (doneL l) = true) := fun e => rig_same hc (hg.trans e)
  have HD : Hid (∀ W, Below w.heap.size w W → Calls Try.prog 9 #[.slice ad l.length cap] W fun e w' => ∃ v', e = .returned (.tuple #[v', .nilIface]) ∧ IsOps w' v' (doneL l) ∧ Below W.heap.size W w') := fun W hW => done_ok l _ W (HI.out W hW) hc
  have HSER : Hid (∀ W u, Below w.heap.size w W → IsInts W u (comL l) → sortI (comL l) = dealsL (doneL l) → Calls Try.prog 8 #[.slice ad l.length cap, u] W fun e w' => ∃ v', e = .returned (.tuple #[v', .nilIface]) ∧ IsOps w' v' (alongL (doneL l) (comL l)) ∧ Below W.heap.size W w') := fun W u hW hu hso => ser_ok l (comL l) _ u W (HI.out W hW) hu hc hso
  have HM : Hid (∀ W vs vd, IsOps W vs (alongL (doneL l) (comL l)) → IsOps W vd (doneL l) → sortI (comL l) = dealsL (doneL l) → sameB (alongL (doneL l) (comL l)) (doneL l) = true → Calls Try.prog 10 #[vs, vd] W fun e w' => e = .returned (.tuple #[.bool true, .nilIface]) ∧ Below W.heap.size W w') := fun W vs vd h1 h2 hso hsm => by
    have h3 := same_ok (alongL (doneL l) (comL l)) (doneL l) vs vd W h1 h2 (along_chk (chk_done hc) hso) (chk_done hc)
    rw [hsm] at h3
    exact h3
  obtain ⟨ad', b, off, cap', he, had, -, hbB, hops⟩ := h
  simp only [Value.slice.injEq, true_and] at he
  obtain ⟨rfl, rfl⟩ := he
  have HO : Hid (∀ W, Below w.heap.size w W → ∀ k, k < l.length → ad = some ⟨b, off, none⟩ ∧ W.cell? ⟨b, off + k * 3, none⟩ = some (.int .i64 (opAt l k).1) ∧ W.cell? ⟨b, off + k * 3 + 1, none⟩ = some (.int .i64 (opAt l k).2.1)) := fun W hW k hk => ⟨had (by omega), ((hops.below hW hbB) k hk).1, ((hops.below hW hbB) k hk).2.1⟩
  obtain ⟨i0, hi, hz0, hs0, hy0⟩ := info_parts infoInt
  have HIF : Hid (Try.prog.info? 3 = some i0 ∧ i0.zero = some (.int .i64 0) ∧ i0.size = 1 ∧ i0.bytes = 8) := ⟨hi, hz0, hs0, hy0⟩
  clear hc hr hcc hs hg had hbB hops hi hz0 hs0 hy0
  go_enter Try.func3, Try.ntmps3
  go_wp2_with fail
  refine (fof_three _ _ (by simp)).mono ?_
  rintro e w1 ⟨rfl, hb1, hat, hs1⟩
  have HB1 : Hid (Below w.heap.size w w1) := hb1
  have HAT : Hid (OpsAt w1 w.heap.size 0 [(1, 2, 1), (2, 1, 1), (2, 3, 0)]) := hat
  clear hb1 hat
  go_wp2_with fail
  refine (fof_one _ _ (HAT.out.below ((Below.refl _ w1).alloc (Nat.le_refl _) _) (.inl hs1)) (by simp; omega)).mono ?_
  rintro e w2 ⟨rfl, hb2⟩
  have HB2 : Hid (Below w.heap.size w w2) := (HB1.out.alloc HB1.out.size _).trans (hb2.mono (by have := HB1.out.size; simp; omega))
  clear hb2 HAT hs1
  go_wp2_with fail
  refine (HOF.out _ (HB2.out.alloc HB2.out.size _)).mono ?_
  rintro e w3 ⟨rfl, hb3⟩
  have HB3 : Hid (Below w.heap.size w w3) := (HB2.out.alloc HB2.out.size _).trans (hb3.mono (by have := HB2.out.size; simp; omega))
  clear hb3 HOF HB1 HB2
  cases hg : g with
  | false =>
    subst hg
    cases hs : s with
    | false =>
      subst hs
      cases hcc : c with
      | false =>
        subst hcc
        clear HSAME HSER HM HD HN1 HN2 HN3
        go_wp2_with fail
        go_ret
        exact ⟨rfl, HB3.out.alloc HB3.out.size _⟩
      | true =>
        subst hcc
        have hr := HN3.out rfl
        subst hr
        clear HSAME HSER HM HD HN1 HN2 HN3
        go_wp2_with fail
        go_ret
        exact ⟨rfl, HB3.out.alloc HB3.out.size _⟩
    | true =>
      subst hs
      have hcc := HN2.out rfl
      subst hcc
      have hr := HN3.out rfl
      subst hr
      clear HSAME HSER HM HD HN1 HN2 HN3
      go_wp2_with fail
      go_ret
      exact ⟨rfl, HB3.out.alloc HB3.out.size _⟩
  | true =>
    subst hg
    have hs := HN1.out rfl
    subst hs
    have hcc := HN2.out rfl
    subst hcc
    have hr := HN3.out rfl
    subst hr
    obtain ⟨hso, hsm⟩ := HSAME.out rfl
    have HSO : Hid (sortI (comL l) = dealsL (doneL l)) := hso
    have HSM : Hid (sameB (alongL (doneL l) (comL l)) (doneL l) = true) := hsm
    clear hso hsm HSAME HN1 HN2 HN3
    go_wp2_with fail
    go_loopw [9, 10] (fun v9 v10 wr => ∃ k : Nat, k ≤ l.length ∧ v10 = .int .i64 k ∧ wr.ownsRow w.heap.size 3 1 v9 (cmtTo l k).length ((cmtTo l k).map (Value.int .i64)) ∧ Below w.heap.size w wr) (fun _ v10 _ => l.length - (intOf v10).toNat)
    case atStart => exact ⟨0, Nat.zero_le _, rfl, World.ownsRow_nil _ _ _ _, HB3.out.alloc HB3.out.size _⟩
    case round =>
      clear HB3
      obtain ⟨k, hk, rfl, hown, hbel⟩ := hrel
      have hsz := hbel.size
      obtain ⟨n1, hn1⟩ : ∃ n1, (cmtTo l k).length = n1 := ⟨_, rfl⟩
      have hn1b : n1 ≤ 40 := by rw [← hn1]; have := cmtTo_len l k; omega
      have HN1 : Hid ((cmtTo l k).length = n1) := hn1
      rw [hn1] at hown
      have HOWN : Hid (wr.ownsRow w.heap.size 3 1 u9 n1 ((cmtTo l k).map (Value.int .i64))) := hown
      have HBL : Hid (Below w.heap.size w wr) := hbel
      clear hn1 hown
      by_cases hlt : k < l.length
      · have hlt' : (k : Int) < (l.length : Int) := by omega
        obtain ⟨hadr, c0, c1⟩ := HO.out wr hbel k hlt
        subst hadr
        obtain ⟨⟨t, a, x⟩, ho⟩ : ∃ o : Op3, opAt l k = o := ⟨_, rfl⟩
        rw [ho] at c0 c1
        have HOA : Hid (opAt l k = (t, a, x)) := ho
        simp only at c0 c1
        clear ho hbel
        by_cases ha : a = 3
        · subst ha
          have HRD : Hid (cmtTo l (k + 1) = cmtTo l k ++ [t]) := cmtTo_yes hlt HOA.out
          go_wp2_with (at_builtin; refine wpList_append_own _ rfl (.tmp 96) (.tmp 102) 31 rfl w.heap.size 3 i0 (.int .i64 0) 1 8 Try.underlying31 HIF.out.1 HIF.out.2.1 HIF.out.2.2.1 HIF.out.2.2.2 rfl (by decide) u9 n1 ((cmtTo l k).map (Value.int .i64)) rfl (HOWN.out.alloc _) ⟨wr.heap.size, 0, none⟩ 1 1 ([t].map (Value.int .i64)) rfl rfl (one_int wr t) (int_cells t) (by unfold maxLen; omega) (by omega) (by simp; omega) ?_; intro v4 w4 hown4 hgr4 hnil4)
          have HB4 : Hid (Below w.heap.size w w4) := (HBL.out.alloc HBL.out.size _).grown hgr4 (by simp; omega) (fun q hq => (HOWN.out.lt q hq).1)
          have HO4 : Hid (w4.ownsRow w.heap.size 3 1 v4 (n1 + 1) ((cmtTo l k).map (Value.int .i64) ++ [t].map (Value.int .i64))) := hown4
          clear hown4 hgr4 hnil4
          go_wp2_with fail
          go_roundw
          case rel => exact ⟨k + 1, by omega, by go_num, by rw [HRD.out, List.map_append, List.length_append, HN1.out]; exact HO4.out, HB4.out⟩
          case measure => simp [intOf]; omega
        · have ha' : (a == 3) = false := by simpa using ha
          have HRD : Hid (cmtTo l (k + 1) = cmtTo l k) := cmtTo_no hlt HOA.out ha'
          clear ha
          go_wp2_with fail
          go_roundw
          case rel => exact ⟨k + 1, by omega, by go_num, by rw [HRD.out, HN1.out]; exact HOWN.out, HBL.out⟩
          case measure => simp [intOf]; omega
      · have hlt' : ¬ (k : Int) < (l.length : Int) := by omega
        obtain rfl : k = l.length := by omega
        have HCM : Hid (IsInts wr u9 (comL l)) := by
          have h1 := HOWN.out
          rw [← HN1.out] at h1
          unfold cmtTo at h1
          rw [List.take_length] at h1
          exact isInts_own h1 rfl
        clear hbel
        go_wp2_with fail
        refine (HSER.out wr _ HBL.out HCM.out HSO.out).mono ?_
        rintro e w5 ⟨sv, rfl, hs5, hb5⟩
        have HS5 : Hid (IsOps w5 sv (alongL (doneL l) (comL l))) := hs5
        have HB5 : Hid (Below w.heap.size w w5) := HBL.out.trans (hb5.mono HBL.out.size)
        clear hs5 hb5
        go_wp2_with fail
        refine (HD.out w5 HB5.out).mono ?_
        rintro e w6 ⟨dv, rfl, hd6, hb6⟩
        have HS6 : Hid (IsOps w6 sv (alongL (doneL l) (comL l))) := HS5.out.below hb6 (Nat.le_refl _)
        have HD6 : Hid (IsOps w6 dv (doneL l)) := hd6
        have HB6 : Hid (Below w.heap.size w w6) := HB5.out.trans (hb6.mono HB5.out.size)
        clear hd6 hb6
        go_wp2_with fail
        refine (HM.out w6 sv dv HS6.out HD6.out HSO.out HSM.out).mono ?_
        rintro e w7 ⟨rfl, hb7⟩
        have HB7 : Hid (Below w.heap.size w w7) := HB6.out.trans (hb7.mono HB6.out.size)
        clear hb7
        go_wp2_with fail
        go_ret
        exact ⟨rfl, HB7.out⟩
end Go.Proofs.Ytlhkjllpgdhnjac
