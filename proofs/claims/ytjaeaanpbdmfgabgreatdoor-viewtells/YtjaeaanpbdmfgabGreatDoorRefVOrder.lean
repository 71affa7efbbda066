/-
  PROVED HERE: laneref1.ViewOrder, which calls itself, gives the first order by numbers behind a beginning along which a list of what is done looks the same, and whether there is one. Old memory stays as it was.
  Conditions: none.
-/
import Derived.Test.YtjaeaanpbdmfgabGreatDoorRefViews
import Derived.Test.YtjaeaanpbdmfgabGreatDoorRefDealsL
import Derived.Test.YtjaeaanpbdmfgabGreatDoorRefIn
import Derived.Test.YtjaeaanpbdmfgabGreatDoorAlongPlain
import Derived.Laws.AppendOwnNone
namespace Go.Proofs.YtjaeaanpbdmfgabGreatDoor
open Go.RowKit

def rlooksB (d : List Op3) (o : List Int) : Bool := sightB d (alongL d o)
theorem rbegun_sort {ds b : List Int} (hd : ds.Pairwise (· < ·)) (hB : Begun ds b) (hl : b.length = ds.length) : sortI b = ds := by
  have hp : b.Perm ds := perm_of_sub b ds hB.once hB.all (by omega)
  refine (sort_iff hd).2 ⟨hl, rise_uniq _ _ (putsL_rise b) hd fun x => ?_⟩
  rw [mem_puts]
  exact hp.mem_iff
theorem of_pos {d : List Op3} {x : Int} (h : x ∈ dealsL d) : 0 < (ofL d x).length := by
  obtain ⟨o, ho, e⟩ := hasB_iff.1 (mem_deals.1 h).2.2
  have : o ∈ ofL d x := by unfold ofL; exact List.mem_filter.2 ⟨ho, by simp [e]⟩
  exact List.length_pos_of_mem this
/-- An answer: an order and yes, or anything and no. -/
def VAns (o : Option (List Int)) (w w' : World) (e : Ending) : Prop := ∃ (v' : Value) (r : List Int) (ok : Bool), e = .returned (.tuple #[v', .bool ok]) ∧ ((o = some r ∧ ok = true) ∨ (o = none ∧ ok = false)) ∧ IsInts w' v' r ∧ r.length ≤ 6 ∧ Below w.heap.size w w'
theorem vans_some {o : Option (List Int)} {r : List Int} {w w' : World} {v' : Value} {e : Ending} (he : e = .returned (.tuple #[v', .bool true])) (h : o = some r) (hI : IsInts w' v' r) (h6 : r.length ≤ 6) (hb : Below w.heap.size w w') : VAns o w w' e := ⟨v', r, true, he, .inl ⟨h, rfl⟩, hI, h6, hb⟩
theorem vans_none {o : Option (List Int)} {r : List Int} {w w' : World} {v' : Value} {e : Ending} (he : e = .returned (.tuple #[v', .bool false])) (h : o = none) (hI : IsInts w' v' r) (h6 : r.length ≤ 6) (hb : Below w.heap.size w w') : VAns o w w' e := ⟨v', r, false, he, .inr ⟨h, rfl⟩, hI, h6, hb⟩
def intL (r : List Int) : List Value := r.map (Value.int .i64)
theorem intL_one (r : List Int) : ∀ u ∈ intL r, u.oneCell' = true := fun u hu => by
  obtain ⟨x, _, rfl⟩ := List.mem_map.1 hu
  rfl
def VOk (d : List Op3) (f : Nat) : Prop := ∀ (b : List Int) (v u : Value) (w : World), IsOps w v d → Room v → IsInts w u b → Begun (dealsL d) b → b.length + f = (dealsL d).length →
  Calls Tryz.prog 22 #[v, u] w fun e w' => VAns (tryO (dealsL d) (rlooksB d) f b) w w' e

set_option maxHeartbeats 4000000 in
theorem vord_zero {d : List Op3} (hc : (chk d).2 = 0) : VOk d 0 := by
  intro b v u w hI hr hu hB hn
  have hsort := rbegun_sort (dealsL_rise d) hB (by omega)
  have hl := chk_len hc
  have h6 := dealsTo_len d 6
  have hb6 : b.length ≤ 6 := by have : b.length = (dealsL d).length := by omega
                                unfold dealsL at this; omega
  have hdd := refDeals_any d v w hI hl
  rw [puts_deals fun o ho => isOp_deal (chk_ops hc o ho)] at hdd
  have HDD : Hid (Calls Tryz.prog 6 #[v] w fun e w' => ∃ v', e = .returned v' ∧ IsInts w' v' (dealsL d) ∧ Below w.heap.size w w') := hdd
  have HI : Hid (∀ W, Below w.heap.size w W → IsOps W v d ∧ IsInts W u b) := fun W hW => ⟨hI.below hW (Nat.le_refl _), hu.below hW (Nat.le_refl _)⟩
  have HR : Hid (Room v) := hr
  have HC : Hid ((chk d).2 = 0 ∧ (chk (alongL d b)).2 = 0) := ⟨hc, along_chk hc hsort⟩
  have HOD : Hid (∀ x ∈ b, 0 < (ofL d x).length) := fun x hx => of_pos (hB.all x hx)
  obtain ⟨ad, b0, off, cap, hv, -⟩ := hu
  subst hv
  obtain ⟨ln, hln⟩ : ∃ ln, b.length = ln := ⟨_, rfl⟩
  have HLN : Hid (b.length = ln) := hln
  have hdl : (dealsL d).length = ln := by omega
  rw [hln] at HI ⊢
  have HDL : Hid ((dealsL d).length = ln) := hdl
  clear hdd hI hr hB hc hsort hln hdl hn
  go_enter Tryz.func22, Tryz.ntmps22
  go_wp2_with fail
  refine HDD.out.mono ?_
  rintro e w1 ⟨v1, rfl, hI1, hb1⟩
  obtain ⟨ad1, b1, off1, cap1, hv1, -⟩ := hI1
  rw [HDL.out] at hv1
  subst hv1
  go_wp2_with fail
  refine (along_room d b v _ _ (HI.out w1 hb1).1 (HI.out w1 hb1).2 hl hb6 HOD.out).mono ?_
  rintro e w2 ⟨v2, rfl, hI2, hr2, hb2⟩
  have HI2 : Hid (IsOps w2 v2 (alongL d b) ∧ Room v2) := ⟨hI2, hr2⟩
  have hb02 := hb1.trans (hb2.mono hb1.size)
  clear hI2 hr2 hb1 hb2
  go_wp2_with fail
  refine (refViews_any d (alongL d b) _ _ _ (HI.out w2 hb02).1 HR.out HI2.out.1 HI2.out.2 HC.out.1 HC.out.2).mono ?_
  rintro e w3 ⟨rfl, hb3⟩
  have hb03 := hb02.trans (hb3.mono hb02.size)
  have HU3 : Hid (IsInts w3 (.slice ad ln cap) b) := (HI.out w3 hb03).2
  clear hb02 hb3
  obtain ⟨q, hq⟩ : ∃ q, sightB d (alongL d b) = q := ⟨_, rfl⟩
  rw [hq]
  have HQ : Hid (tryO (dealsL d) (rlooksB d) 0 b = if q = true then some b else none) := by show tryO (dealsL d) (rlooksB d) 0 b = _; rw [tryO, show rlooksB d b = q from hq]
  clear hq
  cases q with
  | true =>
    go_wp2_with fail
    go_ret2
    exact vans_some rfl (by rw [HQ.out]; rfl) HU3.out hb6 hb03
  | false =>
    go_wp2_with fail
    go_ret2
    exact vans_none rfl (by rw [HQ.out]; rfl) HU3.out hb6 hb03

set_option maxHeartbeats 16000000 in
theorem vord_none {d : List Op3} (hc : (chk d).2 = 0) (f : Nat) (ih : VOk d f) (v : Value) (w : World) (hI : IsOps w v d) (hr : Room v) (hn : f + 1 = (dealsL d).length) :
    Calls Tryz.prog 22 #[v, .slice none 0 0] w fun e w' => VAns (tryO (dealsL d) (rlooksB d) (f + 1) []) w w' e := by
  have hl := chk_len hc
  have h6 : (dealsL d).length ≤ 6 := dealsTo_len d 6
  have hdd := refDeals_any d v w hI hl
  rw [puts_deals fun o ho => isOp_deal (chk_ops hc o ho)] at hdd
  have HDD : Hid (Calls Tryz.prog 6 #[v] w fun e w' => ∃ v', e = .returned v' ∧ IsInts w' v' (dealsL d) ∧ Below w.heap.size w w') := hdd
  have HI : Hid (∀ W, Below w.heap.size w W → IsOps W v d) := fun W hW => hI.below hW (Nat.le_refl _)
  have HR : Hid (Room v) := hr
  have IH : Hid (VOk d f) := ih
  obtain ⟨i0, hi, hz0, hs0, hy0⟩ := info_parts infoInt
  have HT : Hid (Tryz.prog.info? 3 = some i0 ∧ i0.zero = some (.int .i64 0) ∧ i0.size = 1 ∧ i0.bytes = 8) := ⟨hi, hz0, hs0, hy0⟩
  obtain ⟨ln, hln⟩ : ∃ ln, (dealsL d).length = ln := ⟨_, rfl⟩
  have HLN : Hid ((dealsL d).length = ln) := hln
  rw [hln] at h6 hn
  have HF : Hid (f + 1 = ln) := hn
  have hne : ((0 : Int) == (ln : Int)) = false := by simp; omega
  clear hdd hI hr ih hi hz0 hs0 hy0 hln hn hc
  go_enter Tryz.func22, Tryz.ntmps22
  go_wp2_with fail
  refine HDD.out.mono ?_
  rintro e w1 ⟨v1, rfl, hI1, hb1⟩
  obtain ⟨ad1, b1, off1, cap1, hv1, ha1, -, hbb1, hc1⟩ := hI1
  rw [HLN.out] at hv1
  subst hv1
  have HE : Hid (∀ W, Below w1.heap.size w1 W → ∀ k, k < ln → ad1 = some ⟨b1, off1, none⟩ ∧ W.cell? ⟨b1, off1 + k, none⟩ = some (.int .i64 ((dealsL d).getD k 0))) := fun W hW k hk => by
    have hkd : k < (dealsL d).length := by rw [HLN.out]; exact hk
    have hb : b1 < w1.heap.size := by
      rcases hbb1 with h | h
      · exact h
      · rw [h] at hkd; simp at hkd
    exact ⟨ha1 (by omega), (hW.cell (p := ⟨b1, off1 + k, none⟩) hb).trans (hc1 k hkd)⟩
  have HB1 : Hid (Below w.heap.size w w1) := hb1
  clear ha1 hbb1 hc1 hb1
  go_wp2_with fail
  go_loopw [7] (fun v7 wr => ∃ k : Nat, k ≤ ln ∧ v7 = .int .i64 k ∧ Below w1.heap.size w1 wr ∧ (∀ j, j < k → (dealsL d).getD j 0 ∉ ([] : List Int) → tryO (dealsL d) (rlooksB d) f ([] ++ [(dealsL d).getD j 0]) = none)) (fun v7 _ => ln - (intOf v7).toNat)
  case atStart => exact ⟨0, Nat.zero_le _, rfl, Below.refl _ _, fun j hj => absurd hj (by omega)⟩
  case round =>
    obtain ⟨k, hk, rfl, hbel, hno⟩ := hrel
    have HNO : Hid (∀ j, j < k → (dealsL d).getD j 0 ∉ ([] : List Int) → tryO (dealsL d) (rlooksB d) f ([] ++ [(dealsL d).getD j 0]) = none) := hno
    have hb0r := HB1.out.trans (hbel.mono HB1.out.size)
    have hsz := hbel.size
    clear hno
    by_cases hlt : k < ln
    · have hlt' : (k : Int) < (ln : Int) := by omega
      obtain ⟨hadr, c0⟩ := HE.out wr hbel k hlt
      subst hadr
      obtain ⟨t, ht⟩ : ∃ t, (dealsL d).getD k 0 = t := ⟨_, rfl⟩
      rw [ht] at c0
      have hkd : k < (dealsL d).length := by rw [HLN.out]; exact hlt
      have htm : t ∈ dealsL d := by rw [← ht]; exact getD_mem hkd
      have HTT : Hid ((dealsL d).getD k 0 = t ∧ t ∈ dealsL d ∧ k < (dealsL d).length) := ⟨ht, htm, hkd⟩
      clear ht htm hkd
      go_wp2_with fail
      refine (in_any [] _ t _ (isInts_nil _) (by simp)).mono ?_
      rintro e w2 ⟨rfl, hw2⟩
      rw [hw2, show inB [] t = false from rfl]
      clear hw2
      go_wp2_with (first | (at_builtin; refine wpList_append_own_none rfl (.tmp 38) (.tmp 39) 23 rfl wr.heap.size 3 i0 1 Tryz.underlying23 HT.out.1 (.slice none 0 0) 0 [] rfl (World.ownsRow_nil _ _ _ _) rfl ?_) | (at_builtin; refine wpList_append_own _ rfl (.tmp 41) (.tmp 46) 23 rfl wr.heap.size 3 i0 (.int .i64 0) 1 8 Tryz.underlying23 HT.out.1 HT.out.2.1 HT.out.2.2.1 HT.out.2.2.2 rfl (by decide) (.slice none 0 0) 0 [] rfl (World.ownsRow_nil _ _ _ _) ⟨wr.heap.size, 0, none⟩ 1 1 [.int .i64 t] rfl rfl (cell_one_new _ _ _) (by simp [Value.oneCell']) (by unfold maxLen; omega) (by omega) (by simp) ?_; intro v3 w3 hown3 hgr3 hnil3))
      have HN3 : Hid (IsInts w3 v3 ([] ++ [t])) := by
        show IsInts w3 v3 ([] ++ [t])
        exact isInts_own (l := [t]) hown3 rfl
      have HB3 : Hid (Below wr.heap.size wr w3) := ((Below.refl _ wr).alloc (Nat.le_refl _) _).grown hgr3 (by simp) (fun q hq => by cases hq)
      have hb03 := hb0r.trans (HB3.out.mono hb0r.size)
      have HB13 : Hid (Below w1.heap.size w1 w3) := hbel.trans (HB3.out.mono hsz)
      clear hown3 hgr3 hnil3 c0
      refine (IH.out ([] ++ [t]) v v3 w3 (HI.out w3 hb03) HR.out HN3.out ((Begun.nil _).snoc HTT.out.2.1 (by simp)) (by rw [HLN.out]; have := HF.out; simp; omega)).mono ?_
      rintro e w4 ⟨v4, r, ok, rfl, hor, hI4, hr6, hb4⟩
      have HI4 : Hid (IsInts w4 v4 r) := hI4
      obtain ⟨ad4, b4, off4, cap4, hv4, -⟩ := hI4
      subst hv4
      have HB4 : Hid (Below w.heap.size w w4) := hb03.trans (hb4.mono hb03.size)
      have HB14 : Hid (Below w1.heap.size w1 w4) := HB13.out.trans (hb4.mono HB13.out.size)
      clear hb4 hb03
      rcases hor with ⟨hs, rfl⟩ | ⟨hs, rfl⟩
      · have HQ : Hid (tryO (dealsL d) (rlooksB d) (f + 1) [] = some r) := tryO_hit HTT.out.2.2 (by simp) (by rw [HTT.out.1]; exact hs) HNO.out
        clear hs
        go_wp2_with fail
        go_ret2
        exact vans_some rfl HQ.out HI4.out hr6 HB4.out
      · have HNN : Hid (tryO (dealsL d) (rlooksB d) f ([] ++ [t]) = none) := hs
        clear hs
        go_wp2_with fail
        go_roundw
        case rel =>
          refine ⟨k + 1, by omega, by go_num, HB14.out, fun j h1 h2 => ?_⟩
          rcases Nat.lt_or_ge j k with h | h
          · exact HNO.out j h h2
          · rw [show j = k by omega, HTT.out.1]; exact HNN.out
        case measure => simp [intOf]; omega
    · have hlt' : ¬ (k : Int) < (ln : Int) := by omega
      have HQ : Hid (tryO (dealsL d) (rlooksB d) (f + 1) [] = none) := tryO_none fun j h1 => HNO.out j (by rw [HLN.out] at h1; omega)
      go_wp2_with fail
      go_ret2
      exact vans_none rfl HQ.out (isInts_nil _) (by simp) hb0r
set_option maxHeartbeats 16000000 in
theorem vord_some {d : List Op3} (hc : (chk d).2 = 0) (f : Nat) (ih : VOk d f) (b : List Int) (v u : Value) (w : World) (hI : IsOps w v d) (hr : Room v) (hu : IsInts w u b) (hB : Begun (dealsL d) b) (hn : b.length + (f + 1) = (dealsL d).length) (hnn : u ≠ .slice none 0 0) :
    Calls Tryz.prog 22 #[v, u] w fun e w' => VAns (tryO (dealsL d) (rlooksB d) (f + 1) b) w w' e := by
  have hl := chk_len hc
  have h6 : (dealsL d).length ≤ 6 := dealsTo_len d 6
  have hdd := refDeals_any d v w hI hl
  rw [puts_deals fun o ho => isOp_deal (chk_ops hc o ho)] at hdd
  have HDD : Hid (Calls Tryz.prog 6 #[v] w fun e w' => ∃ v', e = .returned v' ∧ IsInts w' v' (dealsL d) ∧ Below w.heap.size w w') := hdd
  have HI : Hid (∀ W, Below w.heap.size w W → IsOps W v d ∧ IsInts W u b) := fun W hW => ⟨hI.below hW (Nat.le_refl _), hu.below hW (Nat.le_refl _)⟩
  have HR : Hid (Room v) := hr
  have IH : Hid (VOk d f) := ih
  have HBG : Hid (Begun (dealsL d) b) := hB
  obtain ⟨i0, hi, hz0, hs0, hy0⟩ := info_parts infoInt
  have HT : Hid (Tryz.prog.info? 3 = some i0 ∧ i0.zero = some (.int .i64 0) ∧ i0.size = 1 ∧ i0.bytes = 8) := ⟨hi, hz0, hs0, hy0⟩
  obtain ⟨ad, b0, off, cap, hv, hau, hnu, hbu, hcu⟩ := hu
  subst hv
  obtain ⟨adr, hadr0⟩ : ∃ adr, ad = some adr := by
    cases ad with
    | none =>
      obtain ⟨h1, h2⟩ := hnu rfl
      rw [h1, h2] at hnn
      exact absurd rfl hnn
    | some adr => exact ⟨adr, rfl⟩
  subst hadr0
  clear hnn
  have HU : Hid ((0 < b.length → (some adr : Option Addr) = some ⟨b0, off, none⟩) ∧ (∀ W, Below w.heap.size w W → ∀ i, i < b.length → W.cell? ⟨b0, off + i, none⟩ = some (.int .i64 (b.getD i 0)))) := ⟨hau, fun W hW i hi => by
    have hb : b0 < w.heap.size := by
      rcases hbu with h | h
      · exact h
      · subst h; simp at hi
    exact (hW.cell (p := ⟨b0, off + i, none⟩) hb).trans (hcu i hi)⟩
  obtain ⟨bl, hbl⟩ : ∃ bl, b.length = bl := ⟨_, rfl⟩
  have HBL : Hid (b.length = bl) := hbl
  obtain ⟨ln, hln⟩ : ∃ ln, (dealsL d).length = ln := ⟨_, rfl⟩
  have HLN : Hid ((dealsL d).length = ln) := hln
  rw [hbl] at HI HU ⊢
  rw [hln] at h6
  have hF : bl + f + 1 = ln := by omega
  have HF : Hid (bl + f + 1 = ln) := hF
  have hne : ((bl : Int) == (ln : Int)) = false := by simp; omega
  have hb5 : bl ≤ 5 := by omega
  clear hdd hI hr ih hB hi hz0 hs0 hy0 hau hnu hbu hcu hbl hln hF hn hc
  go_enter Tryz.func22, Tryz.ntmps22
  go_wp2_with fail
  refine HDD.out.mono ?_
  rintro e w1 ⟨v1, rfl, hI1, hb1⟩
  obtain ⟨ad1, b1, off1, cap1, hv1, ha1, -, hbb1, hc1⟩ := hI1
  rw [HLN.out] at hv1
  subst hv1
  have HE : Hid (∀ W, Below w1.heap.size w1 W → ∀ k, k < ln → ad1 = some ⟨b1, off1, none⟩ ∧ W.cell? ⟨b1, off1 + k, none⟩ = some (.int .i64 ((dealsL d).getD k 0))) := fun W hW k hk => by
    have hkd : k < (dealsL d).length := by rw [HLN.out]; exact hk
    have hb : b1 < w1.heap.size := by
      rcases hbb1 with h | h
      · exact h
      · rw [h] at hkd; simp at hkd
    exact ⟨ha1 (by omega), (hW.cell (p := ⟨b1, off1 + k, none⟩) hb).trans (hc1 k hkd)⟩
  have HB1 : Hid (Below w.heap.size w w1) := hb1
  clear ha1 hbb1 hc1 hb1
  go_wp2_with fail
  go_loopw [7] (fun v7 wr => ∃ k : Nat, k ≤ ln ∧ v7 = .int .i64 k ∧ Below w1.heap.size w1 wr ∧ (∀ j, j < k → (dealsL d).getD j 0 ∉ b → tryO (dealsL d) (rlooksB d) f (b ++ [(dealsL d).getD j 0]) = none)) (fun v7 _ => ln - (intOf v7).toNat)
  case atStart => exact ⟨0, Nat.zero_le _, rfl, Below.refl _ _, fun j hj => absurd hj (by omega)⟩
  case round =>
    obtain ⟨k, hk, rfl, hbel, hno⟩ := hrel
    have HNO : Hid (∀ j, j < k → (dealsL d).getD j 0 ∉ b → tryO (dealsL d) (rlooksB d) f (b ++ [(dealsL d).getD j 0]) = none) := hno
    have hb0r := HB1.out.trans (hbel.mono HB1.out.size)
    have hsz := hbel.size
    clear hno
    by_cases hlt : k < ln
    · have hlt' : (k : Int) < (ln : Int) := by omega
      obtain ⟨hadr, c0⟩ := HE.out wr hbel k hlt
      subst hadr
      obtain ⟨t, ht⟩ : ∃ t, (dealsL d).getD k 0 = t := ⟨_, rfl⟩
      rw [ht] at c0
      have hkd : k < (dealsL d).length := by rw [HLN.out]; exact hlt
      have htm : t ∈ dealsL d := by rw [← ht]; exact getD_mem hkd
      have HTT : Hid ((dealsL d).getD k 0 = t ∧ t ∈ dealsL d ∧ k < (dealsL d).length) := ⟨ht, htm, hkd⟩
      clear ht htm hkd
      have HIN : Hid (IsInts wr (.slice (some adr) bl cap) b) := (HI.out wr hb0r).2
      cases hin : inB b t with
      | true =>
        have HIB : Hid (t ∈ b) := inB_iff.1 hin
        go_wp2_with fail
        refine (in_any b _ t _ HIN.out (by have := HBL.out; omega)).mono ?_
        rintro e w2 ⟨rfl, hw2⟩
        rw [hw2, hin]
        clear hw2 hin
        go_wp2_with fail
        go_roundw
        case rel =>
          refine ⟨k + 1, by omega, by go_num, hbel, fun j h1 h2 => ?_⟩
          rcases Nat.lt_or_ge j k with h | h
          · exact HNO.out j h h2
          · rw [show j = k by omega, HTT.out.1] at h2; exact absurd HIB.out h2
        case measure => simp [intOf]; omega
      | false =>
        have HIB : Hid (t ∉ b) := inB_not.1 hin
        go_wp2_with fail
        refine (in_any b _ t _ HIN.out (by have := HBL.out; omega)).mono ?_
        rintro e w2 ⟨rfl, hw2⟩
        rw [hw2, hin]
        clear hw2 hin
        obtain ⟨sb, so, hadr⟩ : ∃ sb so, (adr = ⟨sb, so, none⟩ ∨ bl = 0) ∧ (∀ j u, (intL b)[j]? = some u → wr.cell? (adr.add j) = some u) := by
          by_cases h0 : 0 < bl
          · have h1 := Option.some.inj (HU.out.1 h0)
            refine ⟨b0, off, .inl h1, fun j u hj => ?_⟩
            have hjl : j < b.length := by have := (List.getElem?_eq_some_iff.1 hj).1; simpa [intL] using this
            have h2 := HU.out.2 wr hb0r j (by rw [← HBL.out]; exact hjl)
            rw [h1, Addr.add_lit, h2, ← hj]
            simp [intL, List.getD, List.getElem?_eq_getElem hjl]
          · have : b = [] := List.length_eq_zero_iff.1 (by rw [HBL.out]; omega)
            refine ⟨0, 0, .inr (by omega), fun j u hj => ?_⟩
            rw [this] at hj; simp [intL] at hj
        have HSRC : Hid (∀ j u, (intL b)[j]? = some u → wr.cell? (adr.add j) = some u) := hadr.2
        have HLI : Hid ((intL b).length = bl) := by show (intL b).length = bl; rw [← HBL.out]; simp [intL]
        clear hadr
        go_upto_region 11 with (first | (at_builtin; refine wpList_append_own _ rfl (.tmp 38) (.tmp 39) 23 rfl wr.heap.size 3 i0 (.int .i64 0) 1 8 Tryz.underlying23 HT.out.1 HT.out.2.1 HT.out.2.2.1 HT.out.2.2.2 rfl (by decide) (.slice none 0 0) 0 [] rfl (World.ownsRow_nil _ _ _ _) adr bl cap (intL b) rfl (by rw [HLI.out]; omega) HSRC.out (intL_one b) (by unfold maxLen; omega) (by omega) (Nat.le_refl _) ?_; intro v2 w2 hown2 hgr2 hnil2) | fail)
        have HB2 : Hid (Below wr.heap.size wr w2) := (Below.refl _ wr).grown hgr2 (Nat.le_refl _) (fun q hq => by cases hq)
        have HOWN2 : Hid (w2.ownsRow wr.heap.size 3 1 v2 bl (intL b)) := by
          show w2.ownsRow wr.heap.size 3 1 v2 bl (intL b)
          rw [Nat.zero_add, List.nil_append] at hown2
          exact hown2
        have c2 : w2.cell? ⟨b1, off1 + k, none⟩ = some (.int .i64 t) := (HB2.out.cell (p := ⟨b1, off1 + k, none⟩) (World.block_lt_of_cell? wr _ c0)).trans c0
        have hs2 := HB2.out.size
        clear hown2 hgr2 hnil2
        go_wp2_with (at_builtin; refine wpList_append_own _ rfl (.tmp 41) (.tmp 46) 23 rfl wr.heap.size 3 i0 (.int .i64 0) 1 8 Tryz.underlying23 HT.out.1 HT.out.2.1 HT.out.2.2.1 HT.out.2.2.2 rfl (by decide) v2 bl (intL b) rfl (HOWN2.out.alloc _) ⟨w2.heap.size, 0, none⟩ 1 1 [.int .i64 t] rfl rfl (cell_one_new _ _ _) (by simp [Value.oneCell']) (by unfold maxLen; omega) (by omega) (by simp; omega) ?_; intro v3 w3 hown3 hgr3 hnil3)
        have HN3 : Hid (IsInts w3 v3 (b ++ [t])) := by
          show IsInts w3 v3 (b ++ [t])
          refine isInts_own (base := wr.heap.size) (e := 3) (l := b ++ [t]) (n := bl + 1) ?_ (by rw [List.length_append, HBL.out]; rfl)
          rw [List.map_append]
          exact hown3
        have HB3 : Hid (Below wr.heap.size wr w3) := (HB2.out.alloc hs2 _).grown hgr3 (by simp; omega) (fun q hq => (HOWN2.out.lt q hq).1)
        have hb03 := hb0r.trans (HB3.out.mono hb0r.size)
        have HB13 : Hid (Below w1.heap.size w1 w3) := hbel.trans (HB3.out.mono hsz)
        clear hown3 hgr3 hnil3 c0 c2
        refine (IH.out (b ++ [t]) v v3 w3 (HI.out w3 hb03).1 HR.out HN3.out (HBG.out.snoc HTT.out.2.1 HIB.out) (by rw [List.length_append, HBL.out, HLN.out]; have := HF.out; simp; omega)).mono ?_
        rintro e w4 ⟨v4, r, ok, rfl, hor, hI4, hr6, hb4⟩
        have HI4 : Hid (IsInts w4 v4 r) := hI4
        obtain ⟨ad4, b4, off4, cap4, hv4, -⟩ := hI4
        subst hv4
        have HB4 : Hid (Below w.heap.size w w4) := hb03.trans (hb4.mono hb03.size)
        have HB14 : Hid (Below w1.heap.size w1 w4) := HB13.out.trans (hb4.mono HB13.out.size)
        clear hb4 hb03
        rcases hor with ⟨hs, rfl⟩ | ⟨hs, rfl⟩
        · have HQ : Hid (tryO (dealsL d) (rlooksB d) (f + 1) b = some r) := tryO_hit HTT.out.2.2 (by rw [HTT.out.1]; exact HIB.out) (by rw [HTT.out.1]; exact hs) HNO.out
          clear hs
          go_wp2_with fail
          go_ret2
          exact vans_some rfl HQ.out HI4.out hr6 HB4.out
        · have HNN : Hid (tryO (dealsL d) (rlooksB d) f (b ++ [t]) = none) := hs
          clear hs
          go_wp2_with fail
          go_roundw
          case rel =>
            refine ⟨k + 1, by omega, by go_num, HB14.out, fun j h1 h2 => ?_⟩
            rcases Nat.lt_or_ge j k with h | h
            · exact HNO.out j h h2
            · rw [show j = k by omega, HTT.out.1]; exact HNN.out
          case measure => simp [intOf]; omega
    · have hlt' : ¬ (k : Int) < (ln : Int) := by omega
      have HQ : Hid (tryO (dealsL d) (rlooksB d) (f + 1) b = none) := tryO_none fun j h1 => HNO.out j (by rw [HLN.out] at h1; omega)
      go_wp2_with fail
      go_ret2
      exact vans_none rfl HQ.out (isInts_nil _) (by simp) hb0r
theorem vord_succ {d : List Op3} (hc : (chk d).2 = 0) (f : Nat) (ih : VOk d f) : VOk d (f + 1) := by
  intro b v u w hI hr hu hB hn
  by_cases hnn : u = .slice none 0 0
  · subst hnn
    have h0 : b = [] := by
      obtain ⟨ad, b0, off, cap, hv, -⟩ := hu
      simp only [Value.slice.injEq] at hv
      exact List.length_eq_zero_iff.1 hv.2.1.symm
    subst h0
    exact vord_none hc f ih v w hI hr (by simpa using hn)
  · exact vord_some hc f ih b v u w hI hr hu hB hn hnn
theorem vord_any {d : List Op3} (hc : (chk d).2 = 0) (f : Nat) : VOk d f := by
  induction f with
  | zero => exact vord_zero hc
  | succ f ih => exact vord_succ hc f ih
end Go.Proofs.YtjaeaanpbdmfgabGreatDoor
