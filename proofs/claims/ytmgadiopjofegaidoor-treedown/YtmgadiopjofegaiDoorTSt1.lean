/-
  PROVED HERE: package tree's letGo and lead: one lets go; who leads to a deal that locks an item.
  Conditions: none.
-/
import Derived.Test.YtmgadiopjofegaiDoorTStMem
import Derived.Test.YtmgadiopjofegaiDoorRefTree
import Derived.Laws.EntriesVeiled
namespace Go.Proofs.YtmgadiopjofegaiDoor
open Go.RowKit

theorem zero_intT (w : World) : (zeroValue 3).run Tryd.prog w = .ok (.int .i64 0) w := by kernel_rfl
theorem row_had (H : Step7) (k : Nat) (h : k < 7) (W : World) : (Instr.index 58 (.agg (cells49 H)) (.int .i64 k)).run Tryd.prog W = .ok (.agg (row7 (H k)).toArray) W := by
  rcases (show k = 0 ∨ k = 1 ∨ k = 2 ∨ k = 3 ∨ k = 4 ∨ k = 5 ∨ k = 6 by omega) with e | e | e | e | e | e | e <;> subst e <;> kernel_rfl
theorem info49h : (Tryd.prog.info? 58).map (·.size) = some 49 := by kernel_rfl
theorem info7h : (Tryd.prog.info? 57).map (·.size) = some 7 := by kernel_rfl
set_option maxHeartbeats 8000000 in
theorem letGo_fn (B M : Nat) (vu : Value) (s : Gst) (L : Int → Int → Bool) (t x : Int) (w : World) (h : Std w B M vu s L) (hx1 : 1 ≤ x) (hx6 : x ≤ 6) :
    Calls Tryd.prog 25 #[.pointer (some ⟨B, 0, none⟩), .int .i64 t, .int .i64 x] w fun e w' => e = .returned (errV (if s.holder x ≠ t then 5 else 0)) ∧ (s.holder x = t → Std w' B M vu { s with holder := setF s.holder x 0 } L) ∧ Turns (fun k => k = M) w w' := by
  have c1 := h.blk.map
  have hBl := h.blk.lt
  have HS := hid_r h
  obtain ⟨m, hm⟩ := h.map
  have HM := hid_r hm
  have hwx := wf_deal hx1 hx6
  have HV := hid_r (hmF_get s.holder x)
  obtain ⟨q, hq⟩ : ∃ q, s.holder x = q := ⟨_, rfl⟩
  rw [hq] at HV ⊢
  by_cases hqt : q = t
  · subst hqt
    rw [if_neg (by simp)]
    clear h hm
    go_enter Tryd.func25, Tryd.ntmps25
    go_wp2_with (first | (at_lookup; refine wp_look _ rfl (.tmp 10) (.tmp 11) 56 false rfl 3 Tryd.underlying56 (.int .i64 0) (zero_intT _) M m (hmF s.holder) rfl HM.out x rfl hwx _ _ HV.out rfl ?_; simp only [Bool.false_eq_true, if_false]) | (at_delete; refine wp_drop _ rfl (.tmp 19) (.tmp 20) 56 rfl 3 Tryd.underlying56 M m (hmF s.holder) rfl HM.out x rfl hwx ?_; intro w1 m1 hm1 ht1))
    go_ret
    refine ⟨rfl, fun _ => ⟨(HS.out.blk.same (ht1.block B hBl HS.out.ne)), ⟨m1, by rw [← hmF_drop]; exact hm1⟩, HS.out.ne⟩, ht1⟩
  · rw [if_pos hqt]
    have hne : (q != t) = true := by simpa using hqt
    clear h hm
    go_enter Tryd.func25, Tryd.ntmps25
    go_wp2_with (at_lookup; refine wp_look _ rfl (.tmp 10) (.tmp 11) 56 false rfl 3 Tryd.underlying56 (.int .i64 0) (zero_intT _) M m (hmF s.holder) rfl HM.out x rfl hwx _ _ HV.out rfl ?_; simp only [Bool.false_eq_true, if_false])
    go_ret
    exact ⟨rfl, fun e => absurd e hqt, Turns.refl _ _⟩
set_option maxHeartbeats 8000000 in
theorem lead_fn (B M : Nat) (vu : Value) (s : Gst) (L : Int → Int → Bool) (t x : Nat) (w : World) (h : Std w B M vu s L) (ht : t < 7) (hx : x < 7) :
    Calls Tryd.prog 29 #[.pointer (some ⟨B, 0, none⟩), .int .i64 t, .int .i64 x] w fun e w' => e = .returned (.tuple #[]) ∧ Std w' B M vu s (ldTo s L (t : Int) (x : Int) 7) ∧ Turns (fun k => k = B) w w' := by
  have hBl := h.blk.lt
  have HR := hid_r h.blk.hadAll
  have HS := hid_r h
  have ht7 : (t : Int) < 7 := by omega
  have ht0 : ¬ (t : Int) < 0 := by omega
  have hx7 : (x : Int) < 7 := by omega
  have hx0 : ¬ (x : Int) < 0 := by omega
  obtain ⟨H, hH⟩ : ∃ H : Step7, (fun (i k : Nat) => s.had (i : Int) (k : Int)) = H := ⟨_, rfl⟩
  rw [hH] at HR
  have HHD : Hid (∀ i k : Nat, H i k = s.had (i : Int) (k : Int)) := fun i k => by rw [← hH]
  clear h hH
  go_enter Tryd.func29, Tryd.ntmps29
  go_wp2_with (refine wpList_load_mid rfl 58 (.tmp 10) rfl B 2 rfl (cells49 H).toList _ HR.out Tryd.underlying58 rfl (by rw [Array.length_toList, cells49_size]; exact info49h) ?_; simp only [Array.toArray_toList])
  go_loopw [12] (fun v12 wr => ∃ k : Nat, k ≤ 7 ∧ v12 = .int .i64 k ∧ Std wr B M vu s (ldTo s L (t : Int) (x : Int) k) ∧ Turns (fun k => k = B) w wr) (fun v12 _ => 7 - (intOf v12).toNat)
  case atStart => exact ⟨0, by omega, rfl, HS.out.noLead, Turns.refl _ _⟩
  case round =>
    obtain ⟨k, hk, rfl, hst, htn⟩ := hrel
    have HK := hid_r hst
    have HT := hid_r htn
    clear hst htn
    by_cases hlt : k < 7
    · have hk7 : (k : Int) < 7 := by omega
      have hk0 : ¬ (k : Int) < 0 := by omega
      have hidx := row_had H k hlt
      have hhk := HHD.out k x
      have hBr := HK.out.blk.lt
      have cl := HK.out.blk.lead hlt ht
      have fl := HK.out.blk.thaw (51 + k * 7 + t)
      simp only [row7] at hidx
      have hcx : ∀ h, ([Value.bool (H k 0), .bool (H k 1), .bool (H k 2), .bool (H k 3), .bool (H k 4), .bool (H k 5), .bool (H k 6)] : List Value)[x]'h = .bool (H k x) := fun h => by
        rcases (show x = 0 ∨ x = 1 ∨ x = 2 ∨ x = 3 ∨ x = 4 ∨ x = 5 ∨ x = 6 by omega) with e | e | e | e | e | e | e <;> subst e <;> rfl
      cases hb : H k x with
      | false =>
        rw [hb] at hhk hcx
        have HHK := hid_r hhk.symm
        clear hhk hb
        go_wp2_with fail
        go_roundw
        case rel => exact ⟨k + 1, by omega, by go_num, (HK.out.skipLead HHK.out).later ((Below.refl _ wr).alloc (Nat.le_refl _) _), HT.out.alloc _⟩
        case measure => simp [intOf]; omega
      | true =>
        rw [hb] at hhk hcx
        have HHK := hid_r hhk.symm
        clear hhk hb
        go_wp2_with fail
        go_roundw
        case rel => exact ⟨k + 1, by omega, by go_num, (HK.out.setLead hlt ht HHK.out).later ((Below.refl _ _).alloc (Nat.le_refl _) _), (HT.out.setCell (p := ⟨B, 51 + k * 7 + t, none⟩) (.inl rfl) _).alloc _⟩
        case measure => simp [intOf]; omega
    · have hk7 : ¬ (k : Int) < 7 := by omega
      have HK7 : Hid (Std wr B M vu s (ldTo s L (t : Int) (x : Int) 7)) := by rw [show (7 : Nat) = k by omega]; exact HK.out
      go_wp2_with fail
      go_end0
      exact ⟨rfl, HK7.out, HT.out⟩
end Go.Proofs.YtmgadiopjofegaiDoor
