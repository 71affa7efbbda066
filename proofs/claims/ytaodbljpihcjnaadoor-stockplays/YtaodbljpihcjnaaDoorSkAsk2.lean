/-
  PROVED HERE: package stock's Ask.
  Conditions: none.
-/
import Derived.Test.YtaodbljpihcjnaaDoorSkRange
namespace Go.Proofs.YtaodbljpihcjnaaDoor
open Go.RowKit
open Go.Maps (Keyed)

/-- What the map is behind an Ask that may. -/
theorem ask_map {s : Stk} {t d : Int} (hok : StkOk s) (hb : askB s t d = true) (y : Int) :
    askF (askS s t d) y = setF (askF s) t (some (.agg #[.int .i64 (s.add t + (if d < 0 then 0 else d)), .int .i64 (s.take t + (if d < 0 then -d else 0))])) y := by
  obtain ⟨h1, -, -⟩ := askB_true hb
  obtain ⟨t1, t6, d0, -, -⟩ := askE_zero h1
  have a0 := hok.add t
  have b0 := hok.take t
  unfold askS
  rw [if_pos hb]
  unfold setF
  by_cases hd : d < 0
  · rw [if_pos hd, if_pos hd, if_pos hd]
    by_cases e : y = t
    · subst e
      rw [if_pos rfl]
      unfold askF
      simp only [putK_same]
      rw [if_pos ⟨⟨t1, t6⟩, by omega⟩, Int.add_zero]
      rfl
    · rw [if_neg e]
      unfold askF
      simp only [putK_other _ _ e]
  · rw [if_neg hd, if_neg hd, if_neg hd]
    by_cases e : y = t
    · subst e
      rw [if_pos rfl]
      unfold askF
      simp only [putK_same]
      rw [if_pos ⟨⟨t1, t6⟩, by omega⟩, Int.add_zero]
    · rw [if_neg e]
      unfold askF
      simp only [putK_other _ _ e]
def AskTold (p M : Nat) (s : Stk) (t d : Int) (w : World) (e : Ending) (w' : World) : Prop := e = .returned (.tuple #[.bool (askB s t d), errV (askE t d)]) ∧ SkIs w' p M (askS s t d) ∧ Turns (fun k => k = p ∨ k = M) w w'
theorem ask_told_no {p M : Nat} {s : Stk} {t d : Int} {w w' : World} {e : Ending} (h : SkIs w p M s) (hb : askB s t d = false) (he : e = .returned (.tuple #[.bool false, errV (askE t d)])) (hw : Below w.heap.size w w') : AskTold p M s t d w e w' := by
  refine ⟨by rw [hb]; exact he, ?_, Turns.of_below hw⟩
  unfold askS
  rw [if_neg (by rw [hb]; decide)]
  exact h.later hw
theorem ask_told_yes {p M m : Nat} {s : Stk} {t d : Int} {v : Value} {w W w' : World} (h : SkIs w p M s) (hb : askB s t d = true) (he : errV (askE t d) = .nilIface) (hW : Below w.heap.size w W) (hm : MapIs w' M (setF (askF s) t (some v)) m) (ht : Turns (fun k => k = M) W w') (hf : ∀ y, askF (askS s t d) y = setF (askF s) t (some v) y) :
    AskTold p M s t d w (.returned (.tuple #[.bool true, .nilIface])) w' := by
  refine ⟨by rw [hb, he], ⟨?_, ⟨m, hm.congr hf⟩, h.ne⟩, (Turns.of_below hW).trans ht (fun j _ hj => .inr hj)⟩
  rw [ask_now]
  have h1 := h.later hW
  exact h1.blk.same (ht.block p h1.blk.lt h.ne)
set_option maxHeartbeats 8000000 in
set_option maxRecDepth 100000 in
theorem ask_sk {w : World} {p M : Nat} {s : Stk} (h : SkIs w p M s) (hok : StkOk s) (t d : Int) : Calls Tryd.prog 7 #[ptK p, .int .i64 t, .int .i64 d] w (AskTold p M s t d w) := by
  have HS := hid_k h
  have HOK := hid_k hok
  have HD := hid_k (isDealS t w)
  unfold ptK
  by_cases hE : askE t d = 0
  · obtain ⟨t1, t6, d0, dl, dh⟩ := askE_zero hE
    have hdd : dealI t = true := decide_eq_true ⟨t1, t6⟩
    have hd0 : (d == 0) = false := by simpa using d0
    rw [hdd] at HD
    have HR := hid_k (fun (W : World) (hW : Below w.heap.size w W) => range_sk (HS.out.later hW) HOK.out)
    have hlo : 0 ≤ lowK s := hok.low
    have hhi : highK s ≤ 1000000 := hok.high
    have hbt := stk_between hok
    have HE0 : Hid (errV (askE t d) = .nilIface) := by show _ = _; rw [hE]; rfl
    have a0 := hok.add t
    have b0 := hok.take t
    have a1 : s.add t ≤ highK s := by
      have h1 := sumS_ge hok.add t1 t6
      have h2 := hok.low
      have h3 := sumS_pos hok.take
      unfold lowK at h2
      unfold highK
      omega
    have b1 : s.take t ≤ 1000000 := by
      have h1 := sumS_ge hok.take t1 t6
      have h2 := hok.low
      have h3 := hok.high
      have h4 := sumS_pos hok.add
      unfold lowK at h2
      unfold highK at h3
      omega
    have HBV : Hid (askB s t d = if d < 0 then decide (0 ≤ lowK s + d) else decide (highK s + d ≤ 1000000)) := by show _ = _; unfold askB; rw [hE]; rfl
    have HMAP := hid_k (fun hb y => ask_map hok (t := t) (d := d) hb y)
    obtain ⟨lo, hlo'⟩ : ∃ q, lowK s = q := ⟨_, rfl⟩
    obtain ⟨hi, hhi'⟩ : ∃ q, highK s = q := ⟨_, rfl⟩
    have hget := askF_get s t1 t6
    obtain ⟨at0, hat0⟩ : ∃ q, s.add t = q := ⟨_, rfl⟩
    obtain ⟨tk0, htk0⟩ : ∃ q, s.take t = q := ⟨_, rfl⟩
    rw [hat0, htk0] at HMAP hget
    rw [hat0] at a0 a1
    rw [htk0] at b0 b1
    rw [hlo'] at hlo HR HBV
    rw [hhi'] at hhi HR HBV a1
    have hlh : lo ≤ 1000000 := by rw [hlo', hhi'] at hbt; omega
    have hhl : 0 ≤ hi := by rw [hlo', hhi'] at hbt; omega
    have HG := hid_k hget
    clear h hok hE hlo' hhi' hbt hget hat0 htk0
    by_cases hd : d < 0
    · rw [if_pos hd] at HBV
      have m1 : (if (0 : Int) > d then (0 : Int) else d) = 0 := if_pos hd
      have m2 : (if (0 : Int) > -d then (0 : Int) else -d) = -d := if_neg (by omega)
      by_cases hlow : 0 ≤ lo + d
      · have hbt : askB s t d = true := by rw [HBV.out]; exact decide_eq_true hlow
        have HBT := hid_k hbt
        have hmap := HMAP.out hbt
        have HMP : Hid (∀ y, askF (askS s t d) y = setF (askF s) t (some (.agg #[.int .i64 (at0), .int .i64 (tk0 + -d)])) y) := fun y => by rw [hmap y]; simp only [hd, if_true, Int.add_zero]
        clear hbt hmap HMAP
        go_enter Tryd.func7, Tryd.ntmps7
        go_wp2_with fail
        refine HD.out.mono ?_
        rintro e w1 ⟨rfl, rfl⟩
        go_wp2_with fail
        refine (HR.out _ (Below.refl _ _)).mono ?_
        rintro e w2 ⟨rfl, hb2⟩
        have HB2 := hid_k hb2
        have hs2 := HS.out.later hb2
        have HS2 := hid_k hs2
        have c1 := hs2.blk.asked
        obtain ⟨m, hm⟩ := hs2.map
        have HM := hid_k hm
        have hwt := wf_deal t1 t6
        have hpl := hs2.blk.lt
        have hMl := hs2.ltM
        clear hb2 hs2 hm
        go_upto_region 8 with (at_lookup; refine wp_look _ rfl (.tmp 52) (.tmp 53) 42 false rfl 47 Tryd.underlying42 (.agg #[.int .i64 0, .int .i64 0]) (zero_sums _) M m (askF s) rfl HM.out t rfl hwt _ _ HG.out rfl ?_; simp only [Bool.false_eq_true, if_false])
        obtain ⟨W, hW⟩ : ∃ W, W = w2.alloc (.cells #[.int .i64 at0, .int .i64 tk0] 47) := ⟨_, rfl⟩
        rw [← hW]
        have hbW : Below w2.heap.size w2 W := by rw [hW]; exact (Below.refl _ w2).alloc (Nat.le_refl _) _
        have p0 : W.cell? ⟨w2.heap.size, 0, none⟩ = some (.int .i64 at0) := by rw [hW]; simp
        have p1 : W.cell? ⟨w2.heap.size, 1, none⟩ = some (.int .i64 tk0) := by rw [hW]; simp
        obtain ⟨P, hP⟩ : ∃ P, P = w2.heap.size := ⟨_, rfl⟩
        rw [← hP] at p0 p1 ⊢
        have HW := hid_k (HS2.out.later hbW)
        have c1W := HW.out.blk.asked
        have HMW : Hid (MapIs W M (askF s) m) := HM.out.turn (Turns.of_below (F := fun _ => False) hbW) id
        have HBW : Hid (Below w1.heap.size w1 W) := HB2.out.trans (hbW.mono HB2.out.size)
        clear hW hbW hP c1
        have hw1 : IntKind.i64.wrap (at0) = at0 := by rw [IntKind.wrap_i64]; omega
        have hw2 : IntKind.i64.wrap (tk0 + -d) = tk0 + -d := by rw [IntKind.wrap_i64]; omega
        obtain ⟨w3, hrun, hm3, ht3⟩ := (HMW.out.drew).store (v := .agg #[.int .i64 (at0), .int .i64 (tk0 + -d)]) (e := 47) Tryd.underlying42 t1 t6
        have HM3 := hid_k hm3
        have HT3 := hid_k ht3
        clear hm3 ht3
        go_region
        go_wp2_with fail
        go_ret2
        exact ask_told_yes HS.out HBT.out HE0.out HBW.out HM3.out ((Turns.refl _ W).drew.trans HT3.out (fun _ _ e => e)) HMP.out
      · go_enter Tryd.func7, Tryd.ntmps7
        go_wp2_with fail
        refine HD.out.mono ?_
        rintro e w1 ⟨rfl, rfl⟩
        go_wp2_with fail
        refine (HR.out _ (Below.refl _ _)).mono ?_
        rintro e w2 ⟨rfl, hb2⟩
        have HB2 := hid_k hb2
        clear hb2
        go_wp2_with fail
        go_ret2
        have hbf : askB s t d = false := by rw [HBV.out]; exact decide_eq_false (by omega)
        exact ask_told_no HS.out hbf (by rw [HE0.out]; rfl) HB2.out
    · rw [if_neg hd] at HBV
      have hdp : 0 < d := by omega
      have m1 : (if (0 : Int) > d then (0 : Int) else d) = d := if_neg (by omega)
      have m2 : (if (0 : Int) > -d then (0 : Int) else -d) = 0 := if_pos (by omega)
      by_cases hhigh : hi + d ≤ 1000000
      · have hbt : askB s t d = true := by rw [HBV.out]; exact decide_eq_true hhigh
        have HBT := hid_k hbt
        have hmap := HMAP.out hbt
        have HMP : Hid (∀ y, askF (askS s t d) y = setF (askF s) t (some (.agg #[.int .i64 (at0 + d), .int .i64 (tk0)])) y) := fun y => by rw [hmap y]; simp only [hd, if_false, Int.add_zero]
        clear hbt hmap HMAP
        go_enter Tryd.func7, Tryd.ntmps7
        go_wp2_with fail
        refine HD.out.mono ?_
        rintro e w1 ⟨rfl, rfl⟩
        go_wp2_with fail
        refine (HR.out _ (Below.refl _ _)).mono ?_
        rintro e w2 ⟨rfl, hb2⟩
        have HB2 := hid_k hb2
        have hs2 := HS.out.later hb2
        have HS2 := hid_k hs2
        have c1 := hs2.blk.asked
        obtain ⟨m, hm⟩ := hs2.map
        have HM := hid_k hm
        have hwt := wf_deal t1 t6
        have hpl := hs2.blk.lt
        have hMl := hs2.ltM
        clear hb2 hs2 hm
        go_upto_region 8 with (at_lookup; refine wp_look _ rfl (.tmp 52) (.tmp 53) 42 false rfl 47 Tryd.underlying42 (.agg #[.int .i64 0, .int .i64 0]) (zero_sums _) M m (askF s) rfl HM.out t rfl hwt _ _ HG.out rfl ?_; simp only [Bool.false_eq_true, if_false])
        obtain ⟨W, hW⟩ : ∃ W, W = w2.alloc (.cells #[.int .i64 at0, .int .i64 tk0] 47) := ⟨_, rfl⟩
        rw [← hW]
        have hbW : Below w2.heap.size w2 W := by rw [hW]; exact (Below.refl _ w2).alloc (Nat.le_refl _) _
        have p0 : W.cell? ⟨w2.heap.size, 0, none⟩ = some (.int .i64 at0) := by rw [hW]; simp
        have p1 : W.cell? ⟨w2.heap.size, 1, none⟩ = some (.int .i64 tk0) := by rw [hW]; simp
        obtain ⟨P, hP⟩ : ∃ P, P = w2.heap.size := ⟨_, rfl⟩
        rw [← hP] at p0 p1 ⊢
        have HW := hid_k (HS2.out.later hbW)
        have c1W := HW.out.blk.asked
        have HMW : Hid (MapIs W M (askF s) m) := HM.out.turn (Turns.of_below (F := fun _ => False) hbW) id
        have HBW : Hid (Below w1.heap.size w1 W) := HB2.out.trans (hbW.mono HB2.out.size)
        clear hW hbW hP c1
        have hw1 : IntKind.i64.wrap (at0 + d) = at0 + d := by rw [IntKind.wrap_i64]; omega
        have hw2 : IntKind.i64.wrap (tk0) = tk0 := by rw [IntKind.wrap_i64]; omega
        obtain ⟨w3, hrun, hm3, ht3⟩ := (HMW.out.drew).store (v := .agg #[.int .i64 (at0 + d), .int .i64 (tk0)]) (e := 47) Tryd.underlying42 t1 t6
        have HM3 := hid_k hm3
        have HT3 := hid_k ht3
        clear hm3 ht3
        go_region
        go_wp2_with fail
        go_ret2
        exact ask_told_yes HS.out HBT.out HE0.out HBW.out HM3.out ((Turns.refl _ W).drew.trans HT3.out (fun _ _ e => e)) HMP.out
      · go_enter Tryd.func7, Tryd.ntmps7
        go_wp2_with fail
        refine HD.out.mono ?_
        rintro e w1 ⟨rfl, rfl⟩
        go_wp2_with fail
        refine (HR.out _ (Below.refl _ _)).mono ?_
        rintro e w2 ⟨rfl, hb2⟩
        have HB2 := hid_k hb2
        clear hb2
        go_wp2_with fail
        go_ret2
        have hbf : askB s t d = false := by rw [HBV.out]; exact decide_eq_false (by omega)
        exact ask_told_no HS.out hbf (by rw [HE0.out]; rfl) HB2.out
  · have HB : Hid (askB s t d = false) := by show _ = _; unfold askB; rw [beq_eq_false_iff_ne.2 hE]; rfl
    have HE1 : Hid (errV (askE t d) = .iface 41 (.int .i64 1)) := by
      show _ = _
      have : askE t d = 1 := by unfold askE at hE ⊢; split at hE <;> simp_all
      rw [this]; rfl
    clear h hok
    by_cases ht : 1 ≤ t ∧ t ≤ 6
    · have hdd : dealI t = true := decide_eq_true ht
      rw [hdd] at HD
      have hd3 : d = 0 ∨ (d ≠ 0 ∧ (d < -1000000 ∨ (¬ d < -1000000 ∧ 1000000 < d))) := by
        unfold askE at hE
        split at hE
        · omega
        · exact absurd rfl hE
      clear hE
      rcases hd3 with rfl | ⟨d0, hdl | ⟨hdl, hdh⟩⟩
      · go_enter Tryd.func7, Tryd.ntmps7
        go_wp2_with fail
        refine HD.out.mono ?_
        rintro e w1 ⟨rfl, rfl⟩
        go_wp2_with fail
        go_ret2
        exact ask_told_no HS.out HB.out (by rw [HE1.out]; rfl) (Below.refl _ _)
      · have hd0 : (d == 0) = false := by simpa using d0
        go_enter Tryd.func7, Tryd.ntmps7
        go_wp2_with fail
        refine HD.out.mono ?_
        rintro e w1 ⟨rfl, rfl⟩
        go_wp2_with fail
        go_ret2
        exact ask_told_no HS.out HB.out (by rw [HE1.out]; rfl) (Below.refl _ _)
      · have hd0 : (d == 0) = false := by simpa using d0
        go_enter Tryd.func7, Tryd.ntmps7
        go_wp2_with fail
        refine HD.out.mono ?_
        rintro e w1 ⟨rfl, rfl⟩
        go_wp2_with fail
        go_ret2
        exact ask_told_no HS.out HB.out (by rw [HE1.out]; rfl) (Below.refl _ _)
    · have hdd : dealI t = false := decide_eq_false ht
      rw [hdd] at HD
      clear hE
      go_enter Tryd.func7, Tryd.ntmps7
      go_wp2_with fail
      refine HD.out.mono ?_
      rintro e w1 ⟨rfl, rfl⟩
      go_wp2_with fail
      go_ret2
      exact ask_told_no HS.out HB.out (by rw [HE1.out]; rfl) (Below.refl _ _)
end Go.Proofs.YtaodbljpihcjnaaDoor
