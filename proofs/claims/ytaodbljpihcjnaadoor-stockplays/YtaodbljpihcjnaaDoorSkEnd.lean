/-
  PROVED HERE: package stock's End.
  Conditions: none.
-/
import Derived.Test.YtaodbljpihcjnaaDoorSkRange
namespace Go.Proofs.YtaodbljpihcjnaaDoor
open Go.RowKit
open Go.Maps (Keyed)

def EndTold (p M : Nat) (s : Stk) (t : Int) (c : Bool) (w : World) (e : Ending) (w' : World) : Prop := e = .returned (.tuple #[.int .i64 (endV s t c), errV (endE s t)]) ∧ SkIs w' p M (endS s t c) ∧ Turns (fun k => k = p ∨ k = M) w w'
theorem end_told_no {p M : Nat} {s : Stk} {t : Int} {c : Bool} {w w' : World} {e : Ending} (h : SkIs w p M s) (hb : endE s t ≠ 0) (he : e = .returned (.tuple #[.int .i64 0, .iface 41 (.int .i64 (endE s t))])) (hw : Below w.heap.size w w') : EndTold p M s t c w e w' := by
  refine ⟨?_, ?_, Turns.of_below hw⟩
  · unfold endV
    rw [if_neg hb, errV_ne hb]
    exact he
  · unfold endS
    rw [if_neg hb]
    exact h.later hw
/-- What the map is behind an End. -/
theorem end_map {s : Stk} {t : Int} {c : Bool} (h0 : endE s t = 0) (y : Int) : askF (endS s t c) y = setF (askF s) t none y := by
  unfold endS setF
  rw [if_pos h0]
  by_cases e : y = t
  · subst e
    rw [if_pos rfl]
    unfold askF
    simp only [putK_same]
    simp
  · rw [if_neg e]
    unfold askF
    simp only [putK_other _ _ e]
theorem end_told_yes {p M m : Nat} {s : Stk} {t : Int} {c : Bool} {w W w1 w' : World} (h : SkIs w p M s) (h0 : endE s t = 0) (hW : Below w.heap.size w W) (hm : MapIs w1 M (setF (askF s) t none) m) (ht : Turns (fun k => k = M) W w1) (hb : StkAt w' p M (endN s t c)) (ht2 : Turns (fun k => k = p) w1 w') :
    EndTold p M s t c w (.returned (.tuple #[.int .i64 (endN s t c), .nilIface])) w' := by
  refine ⟨?_, ⟨?_, ⟨m, ?_⟩, h.ne⟩, ((Turns.of_below hW).trans ht (fun j _ hj => .inr hj)).trans ht2 (fun j _ hj => .inl hj)⟩
  · unfold endV
    rw [if_pos h0, h0]
    rfl
  · have e : (endS s t c).now = endN s t c := by unfold endS; rw [if_pos h0]
    rw [e]
    exact hb
  · exact (hm.turn ht2 (fun e => h.ne e.symm)).congr (end_map h0)
set_option maxHeartbeats 8000000 in
set_option maxRecDepth 100000 in
theorem end_sk {w : World} {p M : Nat} {s : Stk} (h : SkIs w p M s) (hok : StkOk s) (t : Int) (c : Bool) : Calls Tryd.prog 8 #[ptK p, .int .i64 t, .bool c] w (EndTold p M s t c w) := by
  have HS := hid_k h
  have HD := hid_k (isDealS t w)
  unfold ptK
  by_cases ht : 1 ≤ t ∧ t ≤ 6
  · obtain ⟨t1, t6⟩ := ht
    have hdd : dealI t = true := decide_eq_true ⟨t1, t6⟩
    rw [hdd] at HD
    have c0 := h.blk.now
    have c1 := h.blk.asked
    have hpl := h.blk.lt
    have hMl := h.ltM
    obtain ⟨m, hm⟩ := h.map
    have HM := hid_k hm
    have hwt := wf_deal t1 t6
    have hget := askF_get s t1 t6
    have his := askF_is (s := s) t1 t6
    by_cases hn : s.add t = 0 ∧ s.take t = 0
    · have HE : Hid (endE s t = 5) := by show _ = _; unfold endE; rw [if_neg (by omega), if_pos hn]
      rw [decide_eq_true hn] at his
      have HI := hid_k his
      have HG := hid_k hget
      clear h hok hm hget his hn
      go_enter Tryd.func8, Tryd.ntmps8
      go_wp2_with fail
      refine HD.out.mono ?_
      rintro e w1 ⟨rfl, rfl⟩
      go_wp2_with (at_lookup; refine wp_look _ rfl (.tmp 18) (.tmp 19) 42 true rfl 47 Tryd.underlying42 (.agg #[.int .i64 0, .int .i64 0]) (zero_sums _) M m (askF s) rfl HM.out t rfl hwt _ _ HG.out HI.out ?_)
      go_ret2
      exact end_told_no HS.out (by rw [HE.out]; decide) (by rw [HE.out]; rfl) ((Below.refl _ _).alloc (Nat.le_refl _) _)
    · have HE : Hid (endE s t = 0) := by show _ = _; unfold endE; rw [if_neg (by omega), if_neg hn]
      rw [decide_eq_false hn] at his
      have HI := hid_k his
      have HG := hid_k hget
      have a0 := hok.add t
      have b0 := hok.take t
      have a1 := sumS_ge hok.add t1 t6
      have b1 := sumS_ge hok.take t1 t6
      have hlo := hok.low
      have hhi := hok.high
      have hap := sumS_pos hok.add
      have htp := sumS_pos hok.take
      unfold lowK at hlo
      unfold highK at hhi
      have HN : Hid (endN s t c = if c = true then s.now + s.add t - s.take t else s.now) := rfl
      obtain ⟨N, hN⟩ : ∃ q, s.now = q := ⟨_, rfl⟩
      obtain ⟨at0, hat0⟩ : ∃ q, s.add t = q := ⟨_, rfl⟩
      obtain ⟨tk0, htk0⟩ : ∃ q, s.take t = q := ⟨_, rfl⟩
      have hN0 : 0 ≤ N := by omega
      have hN1 : N ≤ 1000000 := by omega
      have a2 : at0 ≤ 1000000 := by omega
      have b2 : tk0 ≤ 1000000 := by omega
      rw [hat0, htk0] at HG
      rw [hat0] at a0
      rw [htk0] at b0
      rw [hN] at c0
      rw [hN, hat0, htk0] at HN
      have HBLK : Hid (StkAt w p M N) := by show StkAt w p M N; rw [← hN]; exact h.blk
      have HSN := hid_k hN
      have hw1 : IntKind.i64.wrap (at0 - tk0) = at0 - tk0 := by rw [IntKind.wrap_i64]; omega
      have hw2 : IntKind.i64.wrap (N + (at0 - tk0)) = N + (at0 - tk0) := by rw [IntKind.wrap_i64]; omega
      clear h hok hm hget his hn a1 b1 hlo hhi hap htp hN hat0 htk0
      have HF : Hid (∀ w2, Turns (fun k => k = M) (w.alloc (.cells #[.int .i64 at0, .int .i64 tk0] 47)) w2 → StkAt w2 p M N ∧ w2.cell? ⟨w.heap.size, 0, none⟩ = some (.int .i64 at0) ∧ w2.cell? ⟨w.heap.size, 1, none⟩ = some (.int .i64 tk0) ∧ w.heap.size < w2.heap.size) := fun w2 h2 => by
        refine ⟨?_, ?_, ?_, ?_⟩
        · exact (HBLK.out.same ((Turns.refl (fun _ => False) w).alloc _ |>.block p hpl id)).same (h2.block p (by simp; omega) HS.out.ne)
        · rw [h2.cell (p := ⟨w.heap.size, 0, none⟩) (by simp) (by show ¬ w.heap.size = M; omega)]; simp
        · rw [h2.cell (p := ⟨w.heap.size, 1, none⟩) (by simp) (by show ¬ w.heap.size = M; omega)]; simp
        · have := h2.size; simp at this; omega
      cases c with
      | false =>
        go_enter Tryd.func8, Tryd.ntmps8
        go_wp2_with fail
        refine HD.out.mono ?_
        rintro e w1 ⟨rfl, rfl⟩
        go_wp2_with (first | (at_lookup; refine wp_look _ rfl (.tmp 18) (.tmp 19) 42 true rfl 47 Tryd.underlying42 (.agg #[.int .i64 0, .int .i64 0]) (zero_sums _) M m (askF s) rfl HM.out t rfl hwt _ _ HG.out HI.out ?_) | (at_delete; refine wp_drop _ rfl (.tmp 29) (.tmp 30) 42 rfl 47 Tryd.underlying42 M m (askF s) rfl (HM.out.turn ((Turns.refl (fun _ => False) _).alloc _) id) t rfl hwt ?_; intro w2 m2 hm2 ht2; obtain ⟨k0, k1, k2, k3⟩ := HF.out w2 ht2; have c02 := k0.now; have z02 := k0.thaw 0; have HK0 := hid_k k0; have HM2 := hid_k hm2; have HT2 := hid_k ht2; clear k0 hm2 ht2))
        go_ret2
        have e : endN s t false = N := HN.out
        rw [← e] at HK0 ⊢
        exact end_told_yes HS.out HE.out ((Below.refl _ _).alloc (Nat.le_refl _) _) HM2.out HT2.out HK0.out (Turns.refl _ _)
      | true =>
        go_enter Tryd.func8, Tryd.ntmps8
        go_wp2_with fail
        refine HD.out.mono ?_
        rintro e w1 ⟨rfl, rfl⟩
        go_upto_region 8 with (first | (at_lookup; refine wp_look _ rfl (.tmp 18) (.tmp 19) 42 true rfl 47 Tryd.underlying42 (.agg #[.int .i64 0, .int .i64 0]) (zero_sums _) M m (askF s) rfl HM.out t rfl hwt _ _ HG.out HI.out ?_) | (at_delete; refine wp_drop _ rfl (.tmp 29) (.tmp 30) 42 rfl 47 Tryd.underlying42 M m (askF s) rfl (HM.out.turn ((Turns.refl (fun _ => False) _).alloc _) id) t rfl hwt ?_; intro w2 m2 hm2 ht2; obtain ⟨k0, k1, k2, k3⟩ := HF.out w2 ht2; have c02 := k0.now; have z02 := k0.thaw 0; have HK0 := hid_k k0; have HM2 := hid_k hm2; have HT2 := hid_k ht2; clear k0 hm2 ht2))
        go_region
        go_wp2_with fail
        go_ret2
        have e : endN s t true = N + (at0 - tk0) := by rw [HN.out]; simp; omega
        rw [← e]
        refine end_told_yes HS.out HE.out ((Below.refl _ _).alloc (Nat.le_refl _) _) HM2.out HT2.out ?_ ((Turns.refl (fun k => k = p) w2).setCell (p := ⟨p, 0, none⟩) (.inl rfl) _).drew
        exact HK0.out.setNow _
  · have hdd : dealI t = false := decide_eq_false ht
    rw [hdd] at HD
    have HE : Hid (endE s t = 1) := by show _ = _; unfold endE; rw [if_pos (by omega)]
    clear h hok
    go_enter Tryd.func8, Tryd.ntmps8
    go_wp2_with fail
    refine HD.out.mono ?_
    rintro e w1 ⟨rfl, rfl⟩
    go_wp2_with fail
    go_ret2
    exact end_told_no HS.out (by rw [HE.out]; decide) (by rw [HE.out]; rfl) (Below.refl _ _)
end Go.Proofs.YtaodbljpihcjnaaDoor
