/-
  PROVED HERE: package tree's edges: from whom to whom, as a row of the program's own, by From, then To. Old memory stays as it was.
  Conditions: none.
-/
import Derived.Test.YtmgadiopjofegaiDoorTStMem
import Derived.Test.YtmgadiopjofegaiDoorOddEdges
import Derived.Test.YtmgadiopjofegaiDoorRegion
import Derived.Deep.QuietTactic
import Derived.Laws.AppendOwn
namespace Go.Proofs.YtmgadiopjofegaiDoor
open Go.RowKit

theorem hid_e {p : Prop} (h : p) : Hid p := h
theorem row_leads (H : Step7) (k : Nat) (h : k < 7) (W : World) : (Instr.index 60 (.agg (cells49 H)) (.int .i64 k)).run Tryd.prog W = .ok (.agg (row7 (H k)).toArray) W := by
  rcases (show k = 0 ∨ k = 1 ∨ k = 2 ∨ k = 3 ∨ k = 4 ∨ k = 5 ∨ k = 6 by omega) with e | e | e | e | e | e | e <;> subst e <;> kernel_rfl
theorem row_lead1 (f : Nat → Bool) (k : Nat) (h : k < 7) (W : World) : (Instr.index 59 (.agg (row7 f).toArray) (.int .i64 k)).run Tryd.prog W = .ok (.bool (f k)) W := by
  rcases (show k = 0 ∨ k = 1 ∨ k = 2 ∨ k = 3 ∨ k = 4 ∨ k = 5 ∨ k = 6 by omega) with e | e | e | e | e | e | e <;> subst e <;> kernel_rfl
theorem info49l : (Tryd.prog.info? 60).map (·.size) = some 49 := by kernel_rfl
theorem eTo_at (L : Nat → Nat → Bool) {i j : Nat} (hj : j < 7) : eTo L (i * 7 + j + 1) = if L i j = true then eTo L (i * 7 + j) ++ [((i : Int), (j : Int))] else eTo L (i * 7 + j) := by
  show (if L ((i * 7 + j) / 7) ((i * 7 + j) % 7) = true then _ else _) = _
  rw [show (i * 7 + j) / 7 = i by omega, show (i * 7 + j) % 7 = j by omega]
theorem info_part4 {t : TypeId} {z : Value} {s b : Nat} (h : (Tryd.prog.info? t).map (fun i => (i.zero, i.size, i.bytes)) = some (some z, s, b)) : ∃ i, Tryd.prog.info? t = some i ∧ i.zero = some z ∧ i.size = s ∧ i.bytes = b := by
  cases hi : Tryd.prog.info? t with
  | none => rw [hi] at h; cases h
  | some i =>
    rw [hi] at h
    injection h with h
    injection h with h1 h
    injection h with h2 h3
    exact ⟨i, rfl, h1, h2, h3⟩
set_option maxHeartbeats 8000000 in
set_option maxRecDepth 100000 in
theorem sedges_fn (B M : Nat) (vu : Value) (s : Gst) (L : Int → Int → Bool) (w : World) (h : Std w B M vu s L) :
    Calls Tryd.prog 17 #[.pointer (some ⟨B, 0, none⟩)] w fun e w' => ∃ v', e = .returned v' ∧ IsEdges w' v' (eTo (fun i k => L (i : Int) (k : Int)) 49) ∧ Below w.heap.size w w' := by
  have hBl := h.blk.lt
  obtain ⟨H, hH⟩ : ∃ H : Step7, (fun (i k : Nat) => L (i : Int) (k : Int)) = H := ⟨_, rfl⟩
  have HR := hid_e h.blk.leadAll
  rw [hH] at HR ⊢
  have HX : Hid (∀ k W, k < 7 → (Instr.index 60 (.agg (cells49 H)) (.int .i64 (k : Nat))).run Tryd.prog W = .ok (.agg (row7 (H k)).toArray) W) := fun k W hk => row_leads H k hk W
  obtain ⟨i0, hi, hz0, hs0, hy0⟩ := info_part4 infoEdge
  have HI : Hid (Tryd.prog.info? 42 = some i0 ∧ i0.zero = some (.agg #[.int .i64 0, .int .i64 0]) ∧ i0.size = 2 ∧ i0.bytes = 16) := ⟨hi, hz0, hs0, hy0⟩
  clear hi hz0 hs0 hy0 h hH
  go_enter Tryd.func17, Tryd.ntmps17
  go_wp2_with (refine wpList_load_mid rfl 60 (.tmp 10) rfl B 51 rfl (cells49 H).toList _ HR.out Tryd.underlying60 rfl (by rw [Array.length_toList, cells49_size]; exact info49l) ?_; simp only [Array.toArray_toList])
  go_loopw [3, 12] (fun v3 v12 wr => ∃ i : Nat, i ≤ 7 ∧ v12 = .int .i64 i ∧ wr.ownsRow w.heap.size 42 2 v3 (eTo H (i * 7)).length (flatE (eTo H (i * 7))) ∧ Below w.heap.size w wr) (fun _ v12 _ => 7 - (intOf v12).toNat)
  case atStart => exact ⟨0, by omega, rfl, World.ownsRow_nil _ _ _ _, Below.refl _ _⟩
  case round =>
    obtain ⟨i, hin, rfl, hown, hbel⟩ := hrel
    have HOWN := hid_e hown
    have HB := hid_e hbel
    clear hown hbel
    by_cases hlt : i < 7
    · have hlt' : (i : Int) < 7 := by omega
      have hi0 : ¬ (i : Int) < 0 := by omega
      have hidx := fun W => HX.out i W hlt
      simp only [row7] at hidx
      obtain ⟨WR, hWR⟩ : ∃ W : World, W = wr := ⟨_, rfl⟩
      subst hWR
      go_wp2_with fail
      go_loopw [3, 17] (fun v3 v17 wr => ∃ j : Nat, j ≤ 7 ∧ v17 = .int .i64 j ∧ wr.ownsRow w.heap.size 42 2 v3 (eTo H (i * 7 + j)).length (flatE (eTo H (i * 7 + j))) ∧ Below w.heap.size w wr) (fun _ v17 _ => 7 - (intOf v17).toNat)
      case atStart => exact ⟨0, by omega, rfl, HOWN.out.alloc _, HB.out.alloc HB.out.size _⟩
      case round =>
        clear HOWN HB hidx
        obtain ⟨j, hjm, rfl, hown, hbel⟩ := hrel
        have HOWN := hid_e hown
        have HB := hid_e hbel
        clear hown hbel
        by_cases hjl : j < 7
        · have hjl' : (j : Int) < 7 := by omega
          have hj0 : ¬ (j : Int) < 0 := by omega
          have hidx := fun W => row_lead1 (H i) j hjl W
          simp only [row7] at hidx
          have HE := hid_e (eTo_at H (i := i) hjl)
          have hln : (eTo H (i * 7 + j)).length ≤ 49 := Nat.le_trans (eTo_len _ _) (by omega)
          obtain ⟨out, hout⟩ : ∃ l, eTo H (i * 7 + j) = l := ⟨_, rfl⟩
          rw [hout] at HOWN HE hln
          obtain ⟨ln, hl0⟩ : ∃ n, out.length = n := ⟨_, rfl⟩
          have HLN := hid_e hl0
          rw [hl0] at HOWN hln
          clear hout hl0
          cases hb : H i j with
          | false =>
            rw [hb] at hidx HE
            rw [if_neg (by decide)] at HE
            clear hb
            go_wp2_with fail
            go_roundw
            case rel => exact ⟨j + 1, by omega, by go_num, by rw [show i * 7 + (j + 1) = i * 7 + j + 1 by omega, HE.out, HLN.out]; exact HOWN.out, HB.out⟩
            case measure => simp [intOf]; omega
          | true =>
            rw [hb] at hidx HE
            rw [if_pos rfl] at HE
            clear hb
            have hsz := HB.out.size
            go_wp2_with (at_builtin; refine wpList_append_own _ rfl (.tmp 22) (.tmp 26) 33 rfl w.heap.size 42 i0 (.agg #[.int .i64 0, .int .i64 0]) 2 16 Tryd.underlying33 HI.out.1 HI.out.2.1 HI.out.2.2.1 HI.out.2.2.2 rfl (by decide) u3 ln (flatE out) rfl (HOWN.out.alloc _) ⟨wr.heap.size, 0, none⟩ 1 1 (flatE [((i : Int), (j : Int))]) rfl rfl (one_edge wr i j) (flatE_one _) (by unfold maxLen; omega) (by omega) (by simp; omega) ?_; intro v3 w4 hown3 hgr3 hnil3)
            have hB3 := (HB.out.alloc hsz _).grown hgr3 (by simp; omega) (fun k hk => (HOWN.out.lt k hk).1)
            go_roundw
            case rel => exact ⟨j + 1, by omega, by go_num, by rw [show i * 7 + (j + 1) = i * 7 + j + 1 by omega, HE.out, List.length_append, HLN.out, flatE_append]; exact hown3, hB3⟩
            case measure => simp [intOf]; omega
        · have hjl' : ¬ (j : Int) < 7 := by omega
          have HQ : Hid (wr.ownsRow w.heap.size 42 2 u3 (eTo H ((i + 1) * 7)).length (flatE (eTo H ((i + 1) * 7)))) := by
            show World.ownsRow _ _ _ _ _ _ _
            rw [show (i + 1) * 7 = i * 7 + j by omega]; exact HOWN.out
          go_wp2_with fail
          go_roundw
          case rel => exact ⟨i + 1, by omega, by go_num, HQ.out, HB.out⟩
          case measure => simp [intOf]; omega
    · have hlt' : ¬ (i : Int) < 7 := by omega
      have HQ : Hid (wr.ownsRow w.heap.size 42 2 u3 (eTo H 49).length (flatE (eTo H 49))) := by
        show World.ownsRow _ _ _ _ _ _ _
        rw [show 49 = i * 7 by omega]; exact HOWN.out
      go_wp2_with fail
      go_ret
      exact ⟨_, rfl, isEdges_own HQ.out rfl, HB.out⟩
end Go.Proofs.YtmgadiopjofegaiDoor
