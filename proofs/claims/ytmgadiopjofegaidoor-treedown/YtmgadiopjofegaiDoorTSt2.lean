/-
  PROVED HERE: package tree's lock: one locks an item, and leads to it all that had it ahead; or it is refused, and how.
  Conditions: the tree is right; nobody holds item 0; who had an item is a deal that began.
-/
import Derived.Test.YtmgadiopjofegaiDoorTSt1
import Derived.BigQuiet
import Derived.Deep.QuietTactic
namespace Go.Proofs.YtmgadiopjofegaiDoor
open Go.RowKit

def any7 (f : Nat → Bool) : Bool := f 0 || (f 1 || (f 2 || (f 3 || (f 4 || (f 5 || f 6)))))
theorem any7_iff (f : Nat → Bool) : any7 f = true ↔ ∃ x, x < 7 ∧ f x = true := by
  unfold any7
  simp only [Bool.or_eq_true]
  constructor
  · rintro (h | h | h | h | h | h | h)
    · exact ⟨0, by omega, h⟩
    · exact ⟨1, by omega, h⟩
    · exact ⟨2, by omega, h⟩
    · exact ⟨3, by omega, h⟩
    · exact ⟨4, by omega, h⟩
    · exact ⟨5, by omega, h⟩
    · exact ⟨6, by omega, h⟩
  · rintro ⟨x, hx, h⟩
    rcases (show x = 0 ∨ x = 1 ∨ x = 2 ∨ x = 3 ∨ x = 4 ∨ x = 5 ∨ x = 6 by omega) with e | e | e | e | e | e | e <;> subst e <;> simp [h]
theorem row_eq7 (b0 b1 b2 b3 b4 b5 b6 : Bool) (W : World) : (Op.equal 57 (.agg #[.bool b0, .bool b1, .bool b2, .bool b3, .bool b4, .bool b5, .bool b6]) (.agg #[.bool false, .bool false, .bool false, .bool false, .bool false, .bool false, .bool false])).run Tryd.prog W = .ok (!(b0 || (b1 || (b2 || (b3 || (b4 || (b5 || b6))))))) W := by
  cases b0 <;> cases b1 <;> cases b2 <;> cases b3 <;> cases b4 <;> cases b5 <;> cases b6 <;> kernel_rfl
theorem iGuard : Tryd.prog.eqGuardType Tryd.prog.depth 57 = false := by kernel_rfl
section
variable {P : Program} {C : World → Prop} {K : Act → Prop} {a : Act} {o : Oper}
theorem quiet_load (ty : TypeId) (x : Operand) (ho : o.op = .load ty x) (b f : Nat) (hx : a.eval x = .pointer (some ⟨b, f, none⟩)) (u : Value) (hr : ∀ w, C w → (Instr.loadAt ty (.pointer (some ⟨b, f, none⟩))).run P w = .ok u w) (hk : K (a.put o.dst u)) : o.quiet P a C K :=
  ⟨u, fun w hw => by
    unfold Oper.quietAt execOp
    simp only [ho, hx, Sem.run_bind, hr w hw, Sem.run_pure, Result.andThen_ok]
    exact ⟨rfl, rfl⟩, hk⟩
theorem quiet_neq (t u : TypeId) (x y : Operand) (ho : o.op = .binOp .neq t x y u) (xs ys : Array Value) (hx : a.eval x = .agg xs) (hy : a.eval y = .agg ys) (hg : P.eqGuardType P.depth t = false) (r : Bool) (hr : ∀ W, (Op.equal t (.agg xs) (.agg ys)).run P W = .ok r W) (hk : K (a.put o.dst (.bool (!r)))) : o.quiet P a C K :=
  ⟨.bool (!r), fun w hw => by
    unfold Oper.quietAt execOp
    simp only [ho, hx, hy, eqGuard, binOp, Sem.run_bind]
    simp [hg, hr, Oper.quietUpon], hk⟩
end
theorem gripE_lock {up : List Int} {s : Gst} {t y : Nat} (ht1 : 1 ≤ t) (ht6 : t ≤ 6) (hy : y < up.length) (h00 : s.holder 0 = 0) (hup0 : up.getD 0 0 = 0) :
    gripE up s ((t : Int), (y : Int) + 1, true) = if s.holder ((y : Int) + 1) ≠ 0 then 7 else if s.had (t : Int) ((y : Int) + 1) = true ∨ (s.first (t : Int) = true ∧ s.holder (up.getD y 0) ≠ (t : Int)) then 6 else 0 := by
  unfold gripE
  simp only
  rw [if_neg (by omega), if_neg (by simp)]
  have e : upOf up ((y : Int) + 1) = up.getD y 0 := by unfold upOf; rw [show ((y : Int) + 1 - 1).toNat = y by omega]
  rw [e]
  by_cases hq : s.holder ((y : Int) + 1) ≠ 0
  · rw [if_pos hq, if_pos hq]
  · rw [if_neg hq, if_neg hq]
    have e2 : ((y : Int) + 1 = 1 ∨ s.holder (up.getD y 0) ≠ (t : Int)) ↔ s.holder (up.getD y 0) ≠ (t : Int) := by
      constructor
      · rintro (h | h)
        · rw [show y = 0 by omega, hup0, h00]; omega
        · exact h
      · exact .inr
    simp only [e2]
/-- What stands behind a lock. -/
theorem Std.locked {w w2 : World} {B M : Nat} {vu : Value} {s : Gst} {L : Int → Int → Bool} {t y m : Nat} (h : Std w B M vu s L) (hm : MapIs w2 M (setF (hmF s.holder) ((y : Int) + 1) (some (.int .i64 (t : Int)))) m) (htn : Turns (fun k => k = M) w w2) (ht1 : 1 ≤ t) (ht6 : t < 7) (hy : y + 1 < 7) :
    Std (w2.setCell ⟨B, 2 + t * 7 + (y + 1), none⟩ (.bool true)) B M vu (stepG s ((t : Int), (y : Int) + 1, true)) L := by
  have h1 : Std w2 B M vu { s with holder := setF s.holder ((y : Int) + 1) (t : Int) } L := ⟨h.blk.same (htn.block B h.blk.lt h.ne), ⟨m, by rw [← hmF_lay _ _ (show (t : Int) ≠ 0 by omega)]; exact hm⟩, h.ne⟩
  have h2 := h1.setHad (t := t) (x := y + 1) ht6 hy
  rw [show ((y + 1 : Nat) : Int) = (y : Int) + 1 by omega] at h2
  exact ⟨h2.blk, h2.map, h2.ne⟩
set_option maxHeartbeats 8000000 in
set_option maxRecDepth 100000 in
theorem lock_fn (B M : Nat) (s : Gst) (L : Int → Int → Bool) (up : List Int) (t y : Nat) (vu : Value) (w : World) (h : Std w B M vu s L) (hI : IsInts w vu up) (hu : up.length ≤ 6) (hy : y < up.length) (ht1 : 1 ≤ t) (ht6 : t ≤ 6) (h00 : s.holder 0 = 0) (hup0 : up.getD 0 0 = 0) (hupr : 0 ≤ up.getD y 0 ∧ up.getD y 0 ≤ 6) (hfst : s.first (t : Int) = any7 fun k => s.had (t : Int) (k : Int)) :
    Calls Tryd.prog 24 #[.pointer (some ⟨B, 0, none⟩), .int .i64 t, .int .i64 ((y : Int) + 1)] w fun e w' => e = .returned (errV (gripE up s ((t : Int), (y : Int) + 1, true))) ∧ (gripE up s ((t : Int), (y : Int) + 1, true) = 0 → Std w' B M vu (stepG s ((t : Int), (y : Int) + 1, true)) (ldTo s L (t : Int) ((y : Int) + 1) 7)) ∧ Turns (fun k => k = B ∨ k = M) w w' := by
  rw [gripE_lock ht1 ht6 hy h00 hup0]
  have c0 := h.blk.up
  have c1 := h.blk.map
  have hBl := h.blk.lt
  have hMl := h.ltM
  have HS := hid_r h
  obtain ⟨m, hm⟩ := h.map
  obtain ⟨ad, b, off, cap, rfl, ha, -, -, hc⟩ := hI
  obtain rfl := ha (by omega)
  obtain ⟨u, hu0⟩ : ∃ u, up.getD y 0 = u := ⟨_, rfl⟩
  have cu := hc y hy
  rw [hu0] at cu hupr ⊢
  have hwx : Wf ((y : Int) + 1) := wf_deal (by omega) (by omega)
  have hwu : Wf u := WalkArith.wf_i64 (by omega)
  obtain ⟨q, hq⟩ : ∃ q, s.holder ((y : Int) + 1) = q := ⟨_, rfl⟩
  obtain ⟨p, hp⟩ : ∃ p, s.holder u = p := ⟨_, rfl⟩
  have hlk1 : (Instr.lookup 56 (.map (some M)) (.int .i64 ((y : Int) + 1)) false).run Tryd.prog w = .ok (.int .i64 q) w := by
    have := hm.look false Tryd.underlying56 (zero_intT _) hwx
    rw [if_neg (by decide), hmF_get, hq] at this
    exact this
  have hlk2 : ∀ n, (Instr.lookup 56 (.map (some M)) (.int .i64 u) false).run Tryd.prog (w.drewN n) = .ok (.int .i64 p) (w.drewN n) := fun n => by
    have := (show MapIs (w.drewN n) M (hmF s.holder) m from hm).look false Tryd.underlying56 (zero_intT _) hwu
    rw [if_neg (by decide), hmF_get, hp] at this
    exact this
  have hload : ∀ n, (Instr.loadAt 57 (.pointer (some ⟨B, 2 + t * 7, none⟩))).run Tryd.prog (w.drewN n) = .ok (.agg (row7 fun k => s.had (t : Int) (k : Int)).toArray) (w.drewN n) := fun n =>
    run_loadAt_mid (w.drewN n) B (2 + t * 7) 57 _ _ (show (w.drewN n).rangeAt B (2 + t * 7) _ from (show StdAt (w.drewN n) B _ M _ _ from h.blk).hadRow (t := t) (by omega)) Tryd.underlying57 rfl info7h
  have heq : ∀ W, (Op.equal 57 (.agg (row7 fun k => s.had (t : Int) (k : Int)).toArray) (.agg #[.bool false, .bool false, .bool false, .bool false, .bool false, .bool false, .bool false])).run Tryd.prog W = .ok (!(s.first (t : Int))) W := fun W => by rw [hfst]; exact row_eq7 _ _ _ _ _ _ _ W
  have chd := h.blk.had (t := t) (x := y + 1) (by omega) (by omega)
  rw [show ((y + 1 : Nat) : Int) = (y : Int) + 1 by omega] at chd
  have hthaw := h.blk.thaw (2 + t * 7 + (y + 1))
  have hguard := iGuard
  obtain ⟨R, hR⟩ : ∃ R, (row7 fun k => s.had (t : Int) (k : Int)).toArray = R := ⟨_, rfl⟩
  rw [hR] at hload heq
  obtain ⟨N, hN⟩ : ∃ N, up.length = N := ⟨_, rfl⟩
  rw [hN] at hy c0 hu ⊢
  have ht0 : ¬ (t : Int) < 0 := by omega
  have ht7 : (t : Int) < 7 := by omega
  have hy0 : ¬ (y : Int) + 1 < 0 := by omega
  have hy7 : (y : Int) + 1 < 7 := by omega
  have hyN : (y : Int) < (N : Int) := by omega
  have hyn : ¬ (y : Int) < 0 := by omega
  obtain ⟨hd, hhd⟩ : ∃ b, s.had (t : Int) ((y : Int) + 1) = b := ⟨_, rfl⟩
  have HHD := hid_r hhd
  rw [hhd] at chd ⊢
  obtain ⟨fr, hfr⟩ : ∃ b, s.first (t : Int) = b := ⟨_, rfl⟩
  rw [hfr] at heq ⊢
  rw [hq, hp]
  rw [hN] at HS
  have HLOAD := hid_r hload
  have HEQ := hid_r heq
  clear hc ha hu0 hq hp hR hN hhd hfr hfst h hm hupr hup0 h00 hload heq
  have HSD : Hid (∀ n, Std (w.drewN n) B M (.slice (some ⟨b, off, none⟩) N cap) s L) := fun n => HS.out.later (below_drewN (Below.refl _ w) n)
  have HT0 : Hid (∀ n, Turns (fun k => k = B ∨ k = M) w (w.drewN n)) := fun n => Turns.of_below (below_drewN (Below.refl _ w) n)
  have HCALL : Hid (∀ n, Calls Tryd.prog 29 #[.pointer (some ⟨B, 0, none⟩), .int .i64 t, .int .i64 ((y : Int) + 1)] (w.drewN n) fun e w' => e = .returned (.tuple #[]) ∧ Std w' B M (.slice (some ⟨b, off, none⟩) N cap) s (ldTo s L (t : Int) ((y : Int) + 1) 7) ∧ Turns (fun k => k = B) (w.drewN n) w') := fun n => by
    have hcall := lead_fn B M _ s L t (y + 1) (w.drewN n) (HSD.out n) (by omega) (by omega)
    rw [show ((y + 1 : Nat) : Int) = (y : Int) + 1 by omega] at hcall
    exact hcall
  by_cases hq0 : q = 0
  · subst hq0
    rw [if_neg (by simp)]
    cases hd with
    | true =>
      rw [if_pos (.inl rfl)]
      clear HCALL
      cases fr with
      | false =>
        go_enter Tryd.func24, Tryd.ntmps24
        go_wp2_with fail
        refine wp_region_quiet_lit (by kernel_rfl) (by kernel_rfl) ?_
        repeat (go_big_quiet_step (fail))
        go_big_quiet_want
        refine quiet_load 57 (.tmp 21) rfl B (2 + t * 7) rfl (.agg R) (fun W hW => by obtain ⟨n, rfl⟩ := hW; exact HLOAD.out n) ?_
        go_simp
        go_big_quiet_on
        repeat (go_big_quiet_step (fail))
        go_big_quiet_want
        refine quiet_neq 57 57 (.tmp 22) (.tmp 23) rfl R _ rfl rfl hguard _ HEQ.out ?_
        go_simp
        go_big_quiet_on
        repeat (go_big_quiet_step (fail))
        refine wpQuiet_nil ?_
        intro _ hw'
        obtain ⟨nq, hw''⟩ := hw'
        subst hw''
        go_wp2_with fail
        go_ret
        first | exact ⟨rfl, fun e => absurd e (by decide), HT0.out _⟩ | exact ⟨rfl, HT0.out _⟩
      | true =>
        go_enter Tryd.func24, Tryd.ntmps24
        go_wp2_with fail
        refine wp_region_quiet_lit (by kernel_rfl) (by kernel_rfl) ?_
        repeat (go_big_quiet_step (fail))
        go_big_quiet_want
        refine quiet_load 57 (.tmp 21) rfl B (2 + t * 7) rfl (.agg R) (fun W hW => by obtain ⟨n, rfl⟩ := hW; exact HLOAD.out n) ?_
        go_simp
        go_big_quiet_on
        repeat (go_big_quiet_step (fail))
        go_big_quiet_want
        refine quiet_neq 57 57 (.tmp 22) (.tmp 23) rfl R _ rfl rfl hguard _ HEQ.out ?_
        go_simp
        go_big_quiet_on
        repeat (go_big_quiet_step (fail))
        refine wpQuiet_nil ?_
        intro _ hw'
        obtain ⟨nq, hw''⟩ := hw'
        subst hw''
        go_wp2_with fail
        go_ret
        first | exact ⟨rfl, fun e => absurd e (by decide), HT0.out _⟩ | exact ⟨rfl, HT0.out _⟩
    | false =>
      cases fr with
      | false =>
        rw [if_neg (by simp)]
        go_enter Tryd.func24, Tryd.ntmps24
        go_wp2_with fail
        refine wp_region_quiet_lit (by kernel_rfl) (by kernel_rfl) ?_
        repeat (go_big_quiet_step (fail))
        go_big_quiet_want
        refine quiet_load 57 (.tmp 21) rfl B (2 + t * 7) rfl (.agg R) (fun W hW => by obtain ⟨n, rfl⟩ := hW; exact HLOAD.out n) ?_
        go_simp
        go_big_quiet_on
        repeat (go_big_quiet_step (fail))
        go_big_quiet_want
        refine quiet_neq 57 57 (.tmp 22) (.tmp 23) rfl R _ rfl rfl hguard _ HEQ.out ?_
        go_simp
        go_big_quiet_on
        repeat (go_big_quiet_step (fail))
        refine wpQuiet_nil ?_
        intro _ hw'
        obtain ⟨nq, hw''⟩ := hw'
        subst hw''
        go_wp2_with fail
        refine (HCALL.out nq).mono ?_
        rintro e w1 ⟨rfl, hs1, hb1⟩
        obtain ⟨m1, hm1⟩ := hs1.map
        have HM1 := hid_r hm1
        have c11 := hs1.blk.map
        have HCC : Hid (∀ w2, Turns (fun k => k = M) w1 w2 → w2.cell? ⟨B, 2 + t * 7 + (y + 1), none⟩ = some (.bool false) ∧ w2.frozen? ⟨B, 2 + t * 7 + (y + 1), none⟩ = false) := fun w2 h2 => by
          have h3 := hs1.blk.same (h2.block B hs1.blk.lt hs1.ne)
          have h4 := h3.had (t := t) (x := y + 1) (by omega) (by omega)
          rw [show ((y + 1 : Nat) : Int) = (y : Int) + 1 by omega, HHD.out] at h4
          exact ⟨h4, h3.thaw _⟩
        have HS1 := hid_r hs1
        have HB1 : Hid (Turns (fun k => k = B ∨ k = M) w w1) := (HT0.out nq).trans hb1 (fun _ _ e => .inl e)
        clear hs1 hb1 hm1
        go_wp2_with (at_mapUpdate; refine wp_store _ rfl (.tmp 62) (.tmp 63) (.tmp 64) 56 rfl 3 Tryd.underlying56 M m1 (hmF s.holder) rfl HM1.out ((y : Int) + 1) (.int .i64 (t : Int)) rfl rfl (by omega) (by omega) ?_; intro w2 hm2 ht2; obtain ⟨hc2, hf2⟩ := HCC.out w2 ht2; have HM2 := hid_r hm2; have HT2 := hid_r ht2; clear hm2 ht2)
        go_ret
        exact ⟨rfl, fun _ => HS1.out.locked HM2.out HT2.out ht1 (by omega) (by omega), (HB1.out.trans HT2.out (fun _ _ e => .inr e)).setCell (p := ⟨B, 2 + t * 7 + (y + 1), none⟩) (.inl (.inl rfl)) _⟩
      | true =>
        by_cases hpt : p = (t : Int)
        · subst hpt
          rw [if_neg (by simp)]
          go_enter Tryd.func24, Tryd.ntmps24
          go_wp2_with fail
          refine wp_region_quiet_lit (by kernel_rfl) (by kernel_rfl) ?_
          repeat (go_big_quiet_step (fail))
          go_big_quiet_want
          refine quiet_load 57 (.tmp 21) rfl B (2 + t * 7) rfl (.agg R) (fun W hW => by obtain ⟨n, rfl⟩ := hW; exact HLOAD.out n) ?_
          go_simp
          go_big_quiet_on
          repeat (go_big_quiet_step (fail))
          go_big_quiet_want
          refine quiet_neq 57 57 (.tmp 22) (.tmp 23) rfl R _ rfl rfl hguard _ HEQ.out ?_
          go_simp
          go_big_quiet_on
          repeat (go_big_quiet_step (fail))
          refine wpQuiet_nil ?_
          intro _ hw'
          obtain ⟨nq, hw''⟩ := hw'
          subst hw''
          go_wp2_with fail
          refine (HCALL.out nq).mono ?_
          rintro e w1 ⟨rfl, hs1, hb1⟩
          obtain ⟨m1, hm1⟩ := hs1.map
          have HM1 := hid_r hm1
          have c11 := hs1.blk.map
          have HCC : Hid (∀ w2, Turns (fun k => k = M) w1 w2 → w2.cell? ⟨B, 2 + t * 7 + (y + 1), none⟩ = some (.bool false) ∧ w2.frozen? ⟨B, 2 + t * 7 + (y + 1), none⟩ = false) := fun w2 h2 => by
            have h3 := hs1.blk.same (h2.block B hs1.blk.lt hs1.ne)
            have h4 := h3.had (t := t) (x := y + 1) (by omega) (by omega)
            rw [show ((y + 1 : Nat) : Int) = (y : Int) + 1 by omega, HHD.out] at h4
            exact ⟨h4, h3.thaw _⟩
          have HS1 := hid_r hs1
          have HB1 : Hid (Turns (fun k => k = B ∨ k = M) w w1) := (HT0.out nq).trans hb1 (fun _ _ e => .inl e)
          clear hs1 hb1 hm1
          go_wp2_with (at_mapUpdate; refine wp_store _ rfl (.tmp 62) (.tmp 63) (.tmp 64) 56 rfl 3 Tryd.underlying56 M m1 (hmF s.holder) rfl HM1.out ((y : Int) + 1) (.int .i64 (t : Int)) rfl rfl (by omega) (by omega) ?_; intro w2 hm2 ht2; obtain ⟨hc2, hf2⟩ := HCC.out w2 ht2; have HM2 := hid_r hm2; have HT2 := hid_r ht2; clear hm2 ht2)
          go_ret
          exact ⟨rfl, fun _ => HS1.out.locked HM2.out HT2.out ht1 (by omega) (by omega), (HB1.out.trans HT2.out (fun _ _ e => .inr e)).setCell (p := ⟨B, 2 + t * 7 + (y + 1), none⟩) (.inl (.inl rfl)) _⟩
        · rw [if_pos (.inr ⟨rfl, hpt⟩)]
          have hpn : (p != (t : Int)) = true := by simpa using hpt
          clear HCALL
          go_enter Tryd.func24, Tryd.ntmps24
          go_wp2_with fail
          refine wp_region_quiet_lit (by kernel_rfl) (by kernel_rfl) ?_
          repeat (go_big_quiet_step (fail))
          go_big_quiet_want
          refine quiet_load 57 (.tmp 21) rfl B (2 + t * 7) rfl (.agg R) (fun W hW => by obtain ⟨n, rfl⟩ := hW; exact HLOAD.out n) ?_
          go_simp
          go_big_quiet_on
          repeat (go_big_quiet_step (fail))
          go_big_quiet_want
          refine quiet_neq 57 57 (.tmp 22) (.tmp 23) rfl R _ rfl rfl hguard _ HEQ.out ?_
          go_simp
          go_big_quiet_on
          repeat (go_big_quiet_step (fail))
          refine wpQuiet_nil ?_
          intro _ hw'
          obtain ⟨nq, hw''⟩ := hw'
          subst hw''
          go_wp2_with fail
          go_ret
          first | exact ⟨rfl, fun e => absurd e (by decide), HT0.out _⟩ | exact ⟨rfl, HT0.out _⟩
  · rw [if_pos hq0]
    have hne : (q != 0) = true := by simpa using hq0
    clear hlk2 chd hguard HCALL
    go_enter Tryd.func24, Tryd.ntmps24
    go_wp2_with fail
    go_ret
    first | exact ⟨rfl, fun e => absurd e (by decide), Turns.refl _ _⟩ | exact ⟨rfl, Turns.refl _ _⟩
end Go.Proofs.YtmgadiopjofegaiDoor
