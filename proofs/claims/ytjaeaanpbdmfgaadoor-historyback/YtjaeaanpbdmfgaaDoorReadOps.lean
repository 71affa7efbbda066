/-
  PROVED HERE: history.readOps and history.Parse answer as the plain readers say, whatever the text; old memory stays as it was.
  Conditions: none.
-/
import Derived.Test.YtjaeaanpbdmfgaaDoorReadOp
import Derived.Test.YtjaeaanpbdmfgaaDoorDeals
import Derived.Deep.LoopGhost
namespace Go.Proofs.YtjaeaanpbdmfgaaDoor
open Go.RowKit Go.PlainAid

theorem rdW_fuel : ∀ (n : Nat) (l : List UInt8), l.length + 1 ≤ n → rdW n l = rdW (l.length + 1) l := by
  intro n
  induction n using Nat.strongRecOn with
  | _ n ih =>
    intro l hn
    cases n with
    | zero => omega
    | succ n =>
      unfold rdW
      cases hc : (cutW l).2 with
      | none => rfl
      | some r =>
        have hl := (cutW_some hc).1
        have hr : r.length + 1 ≤ l.length := by
          have := congrArg List.length hl
          simp at this; omega
        simp only
        cases rdOp (cutW l).1 with
        | none => rfl
        | some o =>
          simp only
          rw [ih n (by omega) r (by omega)]
          rcases Nat.lt_or_ge l.length (n + 1) with hlt | hge
          · rw [ih l.length (by omega) r (by omega)]
          · have : l.length = n := by omega
            rw [this, ih n (by omega) r (by omega)]
theorem rdW_end {l : List UInt8} (hc : (cutW l).2 = none) : rdW (l.length + 1) l = (rdOp l).map fun o => [o] := by
  conv => lhs; unfold rdW
  rw [hc, (cutW_none hc).1]
theorem rdW_more {l r : List UInt8} (hc : (cutW l).2 = some r) : rdW (l.length + 1) l = match rdOp (cutW l).1 with | none => none | some o => (rdW (r.length + 1) r).map fun x => o :: x := by
  have hl := (cutW_some hc).1
  have hr : r.length + 1 ≤ l.length := by
    have := congrArg List.length hl
    simp at this; omega
  conv => lhs; unfold rdW
  rw [hc]
  simp only
  cases rdOp (cutW l).1 with
  | none => rfl
  | some o => simp only; rw [rdW_fuel l.length r hr]
theorem take_snoc41 (ds : List Op3) (o : Op3) : (ds ++ [o]).take 41 = if ds.length ≤ 40 then ds.take 41 ++ [o] else ds.take 41 := by
  by_cases h : ds.length ≤ 40
  · rw [if_pos h, List.take_of_length_le (by simp; omega), List.take_of_length_le (by omega)]
  · rw [if_neg h, List.take_append_of_le_length (by omega)]
theorem own_shape {w : World} {base e size n : Nat} {v : Value} {xs : List Value} (h : w.ownsRow base e size v n xs) : ∃ ad cap, v = .slice ad n cap := by
  rcases h.2 with ⟨hv, h0⟩ | ⟨g, cap, cur, hv, _⟩
  · exact ⟨none, 0, by rw [hv, h0]⟩
  · exact ⟨_, _, hv⟩

/-- The rest of a text, and what was read so far, make the whole. -/
def More (l rest : List UInt8) (ds : List Op3) : Prop := (rdW (rest.length + 1) rest).map (ds ++ ·) = parseT l
theorem More.none_end {l rest : List UInt8} {ds : List Op3} (h : More l rest ds) (hc : (cutW rest).2 = none) (ho : rdOp rest = none) : parseT l = none := by
  unfold More at h
  rw [rdW_end hc, ho] at h; exact h.symm
theorem More.some_end {l rest : List UInt8} {ds : List Op3} {o : Op3} (h : More l rest ds) (hc : (cutW rest).2 = none) (ho : rdOp rest = some o) : parseT l = some (ds ++ [o]) := by
  unfold More at h
  rw [rdW_end hc, ho] at h; exact h.symm
theorem More.none_more {l rest r : List UInt8} {ds : List Op3} (h : More l rest ds) (hc : (cutW rest).2 = some r) (ho : rdOp (cutW rest).1 = none) : parseT l = none := by
  unfold More at h
  rw [rdW_more hc, ho] at h; exact h.symm
theorem More.some_more {l rest r : List UInt8} {ds : List Op3} {o : Op3} (h : More l rest ds) (hc : (cutW rest).2 = some r) (ho : rdOp (cutW rest).1 = some o) : More l r (ds ++ [o]) := by
  unfold More at h ⊢
  rw [rdW_more hc, ho] at h
  rw [← h]
  simp only
  cases rdW (r.length + 1) r with
  | none => rfl
  | some x => simp

/-- What readOps hands back. -/
def OpsRet (e : Ending) (w' : World) (r : Option (List Op3)) : Prop :=
  match r with
  | some ds => ∃ v, e = .returned (.tuple #[v, .bool true]) ∧ IsOps w' v (ds.take 41)
  | none => e = .returned (.tuple #[.slice none 0 0, .bool false])

set_option maxHeartbeats 8000000 in
theorem readOps_any (l : List UInt8) (w : World) (hs : l.length ≤ 9223372036854775807) :
    Calls Tryd.prog 47 #[.string ⟨l.toArray⟩] w fun e w' => OpsRet e w' (parseT l) ∧ Below w.heap.size w w' := by
  cases hl : l with
  | nil =>
    have hem : (⟨([] : List UInt8).toArray⟩ : ByteArray).toList = [] := Lib.toList_data _
    go_enter Tryd.func47, Tryd.ntmps47
    go_wp2
    refine wp_loop_rounds 1 ?_
    rw [rounds_succ]
    go_wp2
    go_ret2
    exact ⟨⟨_, rfl, isOps_nil _⟩, Below.refl _ _⟩
  | cons a0 r0 =>
    have hM : More (a0 :: r0) (a0 :: r0) [] := by
      unfold More parseT
      rw [if_neg (by simp)]
      simp
    rw [hl] at hs
    clear hl l
    obtain ⟨l, hl⟩ : ∃ l, l = a0 :: r0 := ⟨_, rfl⟩
    rw [← hl] at hM hs ⊢
    have hem : l.isEmpty = false := by rw [hl]; rfl
    have HM : Hid (More l l []) := hM
    clear hM hl a0 r0
    obtain ⟨i0, hi, hz0, hs0, hy0⟩ := info_parts infoOp
    have HI : Hid (Tryd.prog.info? 50 = some i0 ∧ i0.zero = some (.agg #[.int .i64 0, .int .i64 0, .int .i64 0]) ∧ i0.size = 3 ∧ i0.bytes = 24) := ⟨hi, hz0, hs0, hy0⟩
    clear hi hz0 hs0 hy0
    go_enter Tryd.func47, Tryd.ntmps47
    go_wp2
    go_loopg [0, 5, 4] (l.length + 2) (fun k v0 v5 v4 wr => ∃ (rest : List UInt8) (ds : List Op3) (m : Bool), v0 = .string ⟨rest.toArray⟩ ∧ v5 = .bool m ∧ rest.length ≤ l.length ∧ wr.ownsRow w.heap.size 50 3 v4 (ds.take 41).length (flat (ds.take 41)) ∧ (m = true → rest.length + 1 < k ∧ More l rest ds) ∧ (m = false → parseT l = some ds) ∧ Below w.heap.size w wr)
    case atStart => exact ⟨l, [], true, rfl, rfl, Nat.le_refl _, World.ownsRow_nil _ _ _ _, fun _ => ⟨by omega, HM.out⟩, fun h => (by cases h), Below.refl _ _⟩
    case round =>
      obtain ⟨rest, ds, m, rfl, rfl, hrl, hown, hmt, hmf, hbel⟩ := hrel
      obtain ⟨n, hn⟩ : ∃ n, (ds.take 41).length = n := ⟨_, rfl⟩
      rw [hn] at hown
      obtain ⟨ad, cap, rfl⟩ := own_shape hown
      have HN : Hid ((ds.take 41).length = n) := hn
      have htl : n ≤ 41 := by have : (ds.take 41).length ≤ 41 := List.length_take_le _ _; omega
      clear hn
      have hsz := hbel.size
      cases m with
      | false =>
        have HF : Hid (parseT l = some ds) := hmf rfl
        clear hmt hmf
        go_wp2
        go_ret2
        refine ⟨?_, hbel⟩
        rw [HF.out]
        exact ⟨_, rfl, isOps_own hown HN.out⟩
      | true =>
        obtain ⟨hk, hMr⟩ := hmt rfl
        have HMR : Hid (More l rest ds) := hMr
        have HOWN : Hid (wr.ownsRow w.heap.size 50 3 (.slice ad n cap) n (flat (ds.take 41))) := hown
        clear hmf hmt hMr hown
        cases hcw : (cutW rest).2 with
        | none =>
          have HC : Hid ((cutW rest).2 = none) := hcw
          have HSZ : Hid ((⟨rest.toArray⟩ : ByteArray).size ≤ 9223372036854775807) := by
            show rest.toArray.size ≤ 9223372036854775807
            rw [List.size_toArray]; omega
          have HNB : Hid ((32 : UInt8) ∉ (⟨rest.toArray⟩ : ByteArray).data.toList) := (cutW_none hcw).2
          clear hcw
          cases hro : rdOp rest with
          | none =>
            have HRO : Hid (rdOp (⟨rest.toArray⟩ : ByteArray).data.toList = none) := hro
            have HP : Hid (parseT l = none) := HMR.out.none_end HC.out hro
            clear hro
            go_wp2_with (first | (go_at_call 63; refine (cut_miss ⟨rest.toArray⟩ _ HNB.out).mono ?_; rintro e w1 ⟨rfl, hw1⟩; subst hw1) | (go_at_call 64; refine (readOp_any ⟨rest.toArray⟩ _ HSZ.out).mono ?_; rintro e w2 ⟨hret, hb2⟩; rw [HRO.out] at hret; obtain ⟨x, y, z, rfl⟩ := hret; have HOW2 : Hid (w2.ownsRow w.heap.size 50 3 (.slice ad n cap) n (flat (ds.take 41))) := own_below (HOWN.out) hb2 (Nat.le_refl _); have hs2 := hb2.size; try simp at hs2))
            go_ret2
            refine ⟨?_, (hbel.trans (hb2.mono hsz)).alloc (by omega) _⟩
            rw [HP.out]
            exact rfl
          | some o =>
            have HRO : Hid (rdOp (⟨rest.toArray⟩ : ByteArray).data.toList = some o) := hro
            have HP : Hid (parseT l = some (ds ++ [o])) := HMR.out.some_end HC.out hro
            clear hro
            by_cases h40 : ds.length ≤ 40
            · have HTK : Hid ((ds ++ [o]).take 41 = ds.take 41 ++ [o]) := by show (ds ++ [o]).take 41 = ds.take 41 ++ [o]; rw [take_snoc41, if_pos h40]
              have h40' : n ≤ 40 := by rw [← HN.out, List.length_take]; omega
              go_wp2_with (first | (go_at_call 63; refine (cut_miss ⟨rest.toArray⟩ _ HNB.out).mono ?_; rintro e w1 ⟨rfl, hw1⟩; subst hw1) | (go_at_call 64; refine (readOp_any ⟨rest.toArray⟩ _ HSZ.out).mono ?_; rintro e w2 ⟨hret, hb2⟩; rw [HRO.out] at hret; subst hret; have HOW2 : Hid (w2.ownsRow w.heap.size 50 3 (.slice ad n cap) n (flat (ds.take 41))) := own_below (HOWN.out) hb2 (Nat.le_refl _); have hs2 := hb2.size; try simp at hs2) | (at_builtin; refine wpList_append_own _ rfl (.tmp 28) (.tmp 30) 22 rfl w.heap.size 50 i0 (.agg #[.int .i64 0, .int .i64 0, .int .i64 0]) 3 24 Tryd.underlying22 HI.out.1 HI.out.2.1 HI.out.2.2.1 HI.out.2.2.2 rfl (by decide) (.slice ad n cap) n (flat (ds.take 41)) rfl ((HOW2.out.alloc _).alloc _) ⟨w2.heap.size + 1, 0, none⟩ 1 1 (flat [(o.1, o.2.1, o.2.2)]) rfl rfl (by have := one_at (w2.alloc (.cells #[.int .i64 o.1, .int .i64 o.2.1, .int .i64 o.2.2] 50)) o.1 o.2.1 o.2.2; simpa using this) (flat_one _) (by unfold maxLen; omega) (by omega) (by simp; omega) ?_; intro v3 w3 hown3 hgr3 hnil3))
              have hB3 := (((hbel.trans (hb2.mono hsz)).alloc (by omega) _).alloc (by simp; omega) _).grown hgr3 (by simp; omega) (fun m hm => (HOW2.out.lt m hm).1)
              go_roundg 0
              case measure => omega
              case rel => exact ⟨[], ds ++ [o], false, rfl, rfl, by simp, by rw [HTK.out, List.length_append, HN.out, flat_append]; exact hown3, fun h => (by cases h), fun _ => HP.out, hB3⟩
            · have HTK : Hid ((ds ++ [o]).take 41 = ds.take 41) := by show (ds ++ [o]).take 41 = ds.take 41; rw [take_snoc41, if_neg h40]
              have h40' : 40 < n := by rw [← HN.out, List.length_take]; omega
              go_wp2_with (first | (go_at_call 63; refine (cut_miss ⟨rest.toArray⟩ _ HNB.out).mono ?_; rintro e w1 ⟨rfl, hw1⟩; subst hw1) | (go_at_call 64; refine (readOp_any ⟨rest.toArray⟩ _ HSZ.out).mono ?_; rintro e w2 ⟨hret, hb2⟩; rw [HRO.out] at hret; subst hret; have HOW2 : Hid (w2.ownsRow w.heap.size 50 3 (.slice ad n cap) n (flat (ds.take 41))) := own_below (HOWN.out) hb2 (Nat.le_refl _); have hs2 := hb2.size; try simp at hs2))
              have hB3 := (hbel.trans (hb2.mono hsz)).alloc (by omega) (.cells #[.int .i64 o.1, .int .i64 o.2.1, .int .i64 o.2.2] 50)
              go_roundg 0
              case measure => omega
              case rel => exact ⟨[], ds ++ [o], false, rfl, rfl, by simp, by rw [HTK.out, HN.out]; exact HOW2.out.alloc _, fun h => (by cases h), fun _ => HP.out, hB3⟩
        | some r =>
          have HC : Hid ((cutW rest).2 = some r) := hcw
          have hre := (cutW_some hcw).1
          have hnb := (cutW_some hcw).2
          have hrr : rest.length = (cutW rest).1.length + (r.length + 1) := by
            have := congrArg List.length hre
            simpa using this
          obtain ⟨u, hu⟩ : ∃ u, (cutW rest).1 = u := ⟨_, rfl⟩
          have HU : Hid ((cutW rest).1 = u) := hu
          rw [hu] at hre hnb hrr
          have HNB : Hid ((u ++ 32 :: r).length ≤ 9223372036854775807 ∧ (32 : UInt8) ∉ u) := ⟨by rw [← hre]; omega, hnb⟩
          have HSZ : Hid ((⟨u.toArray⟩ : ByteArray).size ≤ 9223372036854775807) := by
            show u.toArray.size ≤ 9223372036854775807
            rw [List.size_toArray]; omega
          have HRS : Hid (rest = u ++ 32 :: r) := hre
          have hrl2 : r.length ≤ l.length := by omega
          have hk2 : r.length + 2 < gk := by omega
          clear hcw hnb hu hrr hk hrl
          cases hro : rdOp u with
          | none =>
            have HRO : Hid (rdOp (⟨u.toArray⟩ : ByteArray).data.toList = none) := hro
            have HP : Hid (parseT l = none) := HMR.out.none_more HC.out (by rw [HU.out]; exact hro)
            clear hro HMR HC HU HRS
            subst hre
            go_wp2_with (first | (go_at_call 63; refine (cut_hit u r _ HNB.out.2 HNB.out.1).mono ?_; rintro e w1 ⟨rfl, hw1⟩; subst hw1) | (go_at_call 64; refine (readOp_any ⟨u.toArray⟩ _ HSZ.out).mono ?_; rintro e w2 ⟨hret, hb2⟩; rw [HRO.out] at hret; obtain ⟨x, y, z, rfl⟩ := hret; have HOW2 : Hid (w2.ownsRow w.heap.size 50 3 (.slice ad n cap) n (flat (ds.take 41))) := own_below (HOWN.out.drew) hb2 (Nat.le_refl _); have hs2 := hb2.size; try simp at hs2))
            go_ret2
            refine ⟨?_, (hbel.drew.trans (hb2.mono (by simpa using hsz))).alloc (by omega) _⟩
            rw [HP.out]
            exact rfl
          | some o =>
            have HRO : Hid (rdOp (⟨u.toArray⟩ : ByteArray).data.toList = some o) := hro
            have HP : Hid (More l r (ds ++ [o])) := HMR.out.some_more HC.out (by rw [HU.out]; exact hro)
            clear hro HMR HC HU HRS
            subst hre
            by_cases h40 : ds.length ≤ 40
            · have HTK : Hid ((ds ++ [o]).take 41 = ds.take 41 ++ [o]) := by show (ds ++ [o]).take 41 = ds.take 41 ++ [o]; rw [take_snoc41, if_pos h40]
              have h40' : n ≤ 40 := by rw [← HN.out, List.length_take]; omega
              go_wp2_with (first | (go_at_call 63; refine (cut_hit u r _ HNB.out.2 HNB.out.1).mono ?_; rintro e w1 ⟨rfl, hw1⟩; subst hw1) | (go_at_call 64; refine (readOp_any ⟨u.toArray⟩ _ HSZ.out).mono ?_; rintro e w2 ⟨hret, hb2⟩; rw [HRO.out] at hret; subst hret; have HOW2 : Hid (w2.ownsRow w.heap.size 50 3 (.slice ad n cap) n (flat (ds.take 41))) := own_below (HOWN.out.drew) hb2 (Nat.le_refl _); have hs2 := hb2.size; try simp at hs2) | (at_builtin; refine wpList_append_own _ rfl (.tmp 28) (.tmp 30) 22 rfl w.heap.size 50 i0 (.agg #[.int .i64 0, .int .i64 0, .int .i64 0]) 3 24 Tryd.underlying22 HI.out.1 HI.out.2.1 HI.out.2.2.1 HI.out.2.2.2 rfl (by decide) (.slice ad n cap) n (flat (ds.take 41)) rfl ((HOW2.out.alloc _).alloc _) ⟨w2.heap.size + 1, 0, none⟩ 1 1 (flat [(o.1, o.2.1, o.2.2)]) rfl rfl (by have := one_at (w2.alloc (.cells #[.int .i64 o.1, .int .i64 o.2.1, .int .i64 o.2.2] 50)) o.1 o.2.1 o.2.2; simpa using this) (flat_one _) (by unfold maxLen; omega) (by omega) (by simp; omega) ?_; intro v3 w3 hown3 hgr3 hnil3))
              have hB3 := (((hbel.drew.trans (hb2.mono (by simpa using hsz))).alloc (by omega) _).alloc (by simp; omega) _).grown hgr3 (by simp; omega) (fun m hm => (HOW2.out.lt m hm).1)
              go_roundg (r.length + 2)
              case measure => omega
              case rel => exact ⟨r, ds ++ [o], true, rfl, rfl, by omega, by rw [HTK.out, List.length_append, HN.out, flat_append]; exact hown3, fun _ => ⟨by omega, HP.out⟩, fun h => (by cases h), hB3⟩
            · have HTK : Hid ((ds ++ [o]).take 41 = ds.take 41) := by show (ds ++ [o]).take 41 = ds.take 41; rw [take_snoc41, if_neg h40]
              have h40' : 40 < n := by rw [← HN.out, List.length_take]; omega
              go_wp2_with (first | (go_at_call 63; refine (cut_hit u r _ HNB.out.2 HNB.out.1).mono ?_; rintro e w1 ⟨rfl, hw1⟩; subst hw1) | (go_at_call 64; refine (readOp_any ⟨u.toArray⟩ _ HSZ.out).mono ?_; rintro e w2 ⟨hret, hb2⟩; rw [HRO.out] at hret; subst hret; have HOW2 : Hid (w2.ownsRow w.heap.size 50 3 (.slice ad n cap) n (flat (ds.take 41))) := own_below (HOWN.out.drew) hb2 (Nat.le_refl _); have hs2 := hb2.size; try simp at hs2))
              have hB3 := (hbel.drew.trans (hb2.mono (by simpa using hsz))).alloc (by omega) (.cells #[.int .i64 o.1, .int .i64 o.2.1, .int .i64 o.2.2] 50)
              go_roundg (r.length + 2)
              case measure => omega
              case rel => exact ⟨r, ds ++ [o], true, rfl, rfl, by omega, by rw [HTK.out, HN.out]; exact HOW2.out.alloc _, fun _ => ⟨by omega, HP.out⟩, fun h => (by cases h), hB3⟩
end Go.Proofs.YtjaeaanpbdmfgaaDoor
