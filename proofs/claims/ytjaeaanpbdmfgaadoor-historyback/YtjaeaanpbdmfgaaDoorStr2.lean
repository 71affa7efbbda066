/-
  PROVED HERE: the same, on: a Builder's String, IndexByte, Cut at one blank, Itoa of a number from 1 to 6.
  Conditions: none.
-/
import Derived.Test.YtjaeaanpbdmfgaaDoorStr
import Derived.RegionTactic
import Derived.Lib.IndexBytes
import Derived.ChangeAlike
namespace Go.Proofs.YtjaeaanpbdmfgaaDoor
open Go.RowKit

set_option maxHeartbeats 2000000 in
theorem string_some (B b : Nat) (l : List UInt8) (w : World) (h : Lib.IsBuilder 78 5 B b (Lib.byteCells l) w) (h0 : l ≠ []) :
    Calls Tryd.prog 45 #[.pointer (some ⟨b, 0, none⟩)] w fun e w' => e = .returned (.string ⟨l.toArray⟩) ∧ Below B w w' := by
  obtain ⟨p, hB, v, hbk, hown, hne⟩ : ∃ p, Lib.BuilderAt 78 5 B b p (Lib.byteCells l) w := by
    rcases h with h | h
    · exact ⟨_, h⟩
    · exact ⟨_, h⟩
  have hl0 : l.length ≠ 0 := by simpa using h0
  rw [Lib.byteCells_length] at hown
  obtain ⟨g, cap, cur, rfl, hbg, hg, hnc, hcm, hcs, htake⟩ : ∃ g cap cur, v = .slice (some ⟨g, 0, none⟩) l.length cap ∧ B ≤ g ∧ w.heap[g]? = some (.cells cur 5 (0, 0)) ∧ l.length ≤ cap ∧ cap ≤ maxLen ∧ cur.size = cap * 1 ∧ cur.toList.take (l.length * 1) = Lib.byteCells l := by
    rcases hown.2 with ⟨_, hz⟩ | ⟨g, cap, cur, hv, r⟩
    · exact absurd hz hl0
    · exact ⟨g, cap, cur, hv, r⟩
  have c1 : w.cell? ⟨b, 1, none⟩ = some (.slice (some ⟨g, 0, none⟩) l.length cap) := by
    rw [Lib.cell_of_heap hbk]; rfl
  have hSD : (Builtin.unsafeSliceData_ #[76] 96 #[.slice (some ⟨g, 0, none⟩) l.length cap]).run Tryd.prog w.drew = .ok (.pointer (some ⟨g, 0, none⟩)) w.drew :=
    Lib.run_unsafeSliceData_row _ _ _ _ _ _ (by omega)
  have hUS : (Builtin.unsafeString_ #[96, 3] 9 #[.pointer (some ⟨g, 0, none⟩), .int .i64 l.length]).run Tryd.prog w.drew = .ok (.string ⟨l.toArray⟩) (w.drew.freeze ⟨g, 0, none⟩ l.length) := by
    refine Lib.run_unsafeString_row w.drew 96 3 9 5 Tryd.underlying96 cellsByte g cur.size (by have hg' : w.drew.heap[g]? = some (.cells cur 5 (0, 0)) := hg; simp [World.shape?, hg']) l h0 (by omega) (by unfold maxLen at hcm; omega) ?_
    intro j x hx
    have := hown.cells (g := g) rfl j (.int .u8 x.toNat) (by simp [Lib.byteCells, hx])
    exact this
  clear hg hbk hown htake hcs h
  go_enter Tryd.func45, Tryd.ntmps45
  go_wp2
  go_region
  all_goals (go_wp2; go_ret; exact ⟨rfl, Lib.below_freeze (Below.drew (Below.refl B w)) (p := ⟨g, 0, none⟩) hbg _⟩)
set_option maxHeartbeats 2000000 in
theorem string_nil (B b : Nat) (p : Value) (w : World) (hbk : w.heap[b]? = some (.cells #[p, .slice none 0 0] 78 (0, 0))) :
    Calls Tryd.prog 45 #[.pointer (some ⟨b, 0, none⟩)] w fun e w' => e = .returned (.string ⟨#[]⟩) ∧ Below B w w' := by
  have hUS := fun W => Lib.run_unsafeString_none (P := Tryd.prog) W 96 3 9 none
  have c1 : w.cell? ⟨b, 1, none⟩ = some (.slice none 0 0) := by rw [Lib.cell_of_heap hbk]; rfl
  have hSD : (Builtin.unsafeSliceData_ #[76] 96 #[.slice none 0 0]).run Tryd.prog w.drew = .ok (.pointer none) w.drew := rfl
  clear hbk
  go_enter Tryd.func45, Tryd.ntmps45
  go_wp2
  go_region
  all_goals (go_wp2; go_ret; exact ⟨rfl, Below.drew (Below.refl B w)⟩)

theorem indexByte_lite (s : ByteArray) (c : Int) (w : World) :
    Calls Tryd.prog 82 #[.string s, .int .u8 c] w fun e w' => e = .returned (.int .i64 (Lib.indexByte s.data.toList c.toNat.toUInt8)) ∧ w' = w := by
  have h1 := @run_callFunc_extern Tryd.prog 90 _ Extern.BytealgIndexByte.indexByte Tryd.func90 (by kernel_rfl) (by kernel_rfl) (by kernel_rfl) (by kernel_rfl)
  have h2 := @Lib.run_indexByteString Tryd.prog
  go_enter Tryd.func82, Tryd.ntmps82
  go_wp2
  go_ret
  exact ⟨rfl, rfl⟩
theorem indexByte_any (s : ByteArray) (c : Int) (w : World) :
    Calls Tryd.prog 74 #[.string s, .int .u8 c] w fun e w' => e = .returned (.int .i64 (Lib.indexByte s.data.toList c.toNat.toUInt8)) ∧ w' = w := by
  go_enter Tryd.func74, Tryd.ntmps74
  go_wp2_with (go_at_call 82; refine (indexByte_lite _ _ _).mono ?_; rintro e w' ⟨rfl, rfl⟩)
  go_ret
  exact ⟨rfl, rfl⟩
set_option maxHeartbeats 2000000 in
theorem index_one (s : ByteArray) (w : World) :
    Calls Tryd.prog 81 #[.string s, .string ⟨#[32]⟩] w fun e w' => e = .returned (.int .i64 (Lib.indexByte s.data.toList 32)) ∧ w' = w := by
  go_enter Tryd.func81, Tryd.ntmps81
  go_wp2_with (go_at_call 82; refine (indexByte_lite _ _ _).mono ?_; rintro e w' ⟨rfl, rfl⟩)
  · have h : ([32] == s.toList) = true := by assumption
    go_ret
    refine ⟨?_, rfl⟩
    have e : s.data.toList = [32] := by rw [← Lib.toList_data]; exact (beq_iff_eq.1 h).symm
    rw [e]
    simp [Lib.indexByte]
  · go_ret
    exact ⟨rfl, rfl⟩

/-! ### Cut at a blank -/
theorem indexByte_hit (u v : List UInt8) (c : UInt8) (h : c ∉ u) : Lib.indexByte (u ++ c :: v) c = u.length := by
  induction u with
  | nil => simp [Lib.indexByte]
  | cons a r ih =>
    have ha : (a == c) = false := by simp; intro e; exact h (by simp [e])
    have ih' := ih (fun hr => h (List.mem_cons_of_mem _ hr))
    simp only [List.cons_append, Lib.indexByte, ha, ih']
    simp
theorem indexByte_miss (u : List UInt8) (c : UInt8) (h : c ∉ u) : Lib.indexByte u c = -1 := by
  induction u with
  | nil => rfl
  | cons a r ih =>
    have ha : (a == c) = false := by simp; intro e; exact h (by simp [e])
    have ih' := ih (fun hr => h (List.mem_cons_of_mem _ hr))
    simp [Lib.indexByte, ha, ih']
theorem byteArray_ext {s t : ByteArray} (h : s.data.toList = t.data.toList) : s = t := by
  obtain ⟨⟨l⟩⟩ := s
  obtain ⟨⟨m⟩⟩ := t
  simp at h
  rw [h]
set_option maxHeartbeats 2000000 in
theorem cutLite_hit (u v : List UInt8) (w : World) (h : (32 : UInt8) ∉ u) (hs : (u ++ 32 :: v).length ≤ 9223372036854775807) :
    Calls Tryd.prog 73 #[.string ⟨(u ++ 32 :: v).toArray⟩, .string ⟨#[32]⟩] w fun e w' => e = .returned (.tuple #[.string ⟨u.toArray⟩, .string ⟨v.toArray⟩, .bool true]) ∧ w' = w.drew := by
  have hix := indexByte_hit u v 32 h
  have e1 : (⟨(u ++ 32 :: v).toArray⟩ : ByteArray).extract 0 u.length = ⟨u.toArray⟩ := byteArray_ext (by rw [Lib.extract_data]; simp)
  have e2 : (⟨(u ++ 32 :: v).toArray⟩ : ByteArray).extract (u.length + 1) (⟨(u ++ 32 :: v).toArray⟩ : ByteArray).size = ⟨v.toArray⟩ := byteArray_ext (by rw [Lib.extract_to_end]; simp [List.drop_append])
  have hz : (⟨(u ++ 32 :: v).toArray⟩ : ByteArray).size = u.length + v.length + 1 := by show (u ++ 32 :: v).toArray.size = _; simp; omega
  have hl : u.length + v.length + 1 ≤ 9223372036854775807 := by simp at hs; omega
  obtain ⟨s, hsd⟩ : ∃ s : ByteArray, s = ⟨(u ++ 32 :: v).toArray⟩ := ⟨_, rfl⟩
  have hsl : s.data.toList = u ++ 32 :: v := by rw [hsd]
  rw [← hsd] at e1 e2 hz ⊢
  rw [hz] at e2
  have HX : Hid (Lib.indexByte s.data.toList 32 = u.length) := by show Lib.indexByte s.data.toList 32 = u.length; rw [hsl]; exact hix
  clear hix hsl hsd hs h
  go_enter Tryd.func73, Tryd.ntmps73
  go_wp2_with (go_at_call 81; refine (index_one _ _).mono ?_; rintro e w' ⟨rfl, rfl⟩; rw [HX.out])
  go_region
  go_wp2
  go_ret3
  exact ⟨rfl, rfl⟩
theorem cutLite_miss (s : ByteArray) (w : World) (h : (32 : UInt8) ∉ s.data.toList) :
    Calls Tryd.prog 73 #[.string s, .string ⟨#[32]⟩] w fun e w' => e = .returned (.tuple #[.string s, .string ⟨#[]⟩, .bool false]) ∧ w' = w := by
  have HX : Hid (Lib.indexByte s.data.toList 32 = -1) := indexByte_miss _ _ h
  clear h
  go_enter Tryd.func73, Tryd.ntmps73
  go_wp2_with (go_at_call 81; refine (index_one _ _).mono ?_; rintro e w' ⟨rfl, rfl⟩; rw [HX.out])
  go_ret3
  exact ⟨rfl, rfl⟩
theorem cut_hit (u v : List UInt8) (w : World) (h : (32 : UInt8) ∉ u) (hs : (u ++ 32 :: v).length ≤ 9223372036854775807) :
    Calls Tryd.prog 63 #[.string ⟨(u ++ 32 :: v).toArray⟩, .string ⟨#[32]⟩] w fun e w' => e = .returned (.tuple #[.string ⟨u.toArray⟩, .string ⟨v.toArray⟩, .bool true]) ∧ w' = w.drew := by
  go_enter Tryd.func63, Tryd.ntmps63
  go_wp2_with (go_at_call 73; refine (cutLite_hit u v _ h hs).mono ?_; rintro e w' ⟨rfl, rfl⟩)
  go_ret3
  exact ⟨rfl, rfl⟩
theorem cut_miss (s : ByteArray) (w : World) (h : (32 : UInt8) ∉ s.data.toList) :
    Calls Tryd.prog 63 #[.string s, .string ⟨#[32]⟩] w fun e w' => e = .returned (.tuple #[.string s, .string ⟨#[]⟩, .bool false]) ∧ w' = w := by
  go_enter Tryd.func63, Tryd.ntmps63
  go_wp2_with (go_at_call 73; refine (cutLite_miss s _ h).mono ?_; rintro e w' ⟨rfl, rfl⟩)
  go_ret3
  exact ⟨rfl, rfl⟩

/-! ### Itoa of a deal's number -/
/-- The digit of a number. -/
def digC (t : Int) : UInt8 := (48 + t.toNat).toUInt8
theorem itoa_small (t : Int) (w : World) (h1 : 1 ≤ t) (h6 : t ≤ 6) :
    Calls Tryd.prog 62 #[.int .i64 t] w fun e w' => e = .returned (.string ⟨#[digC t]⟩) ∧ w' = w := by
  rcases (show t = 1 ∨ t = 2 ∨ t = 3 ∨ t = 4 ∨ t = 5 ∨ t = 6 by omega) with rfl | rfl | rfl | rfl | rfl | rfl
  all_goals
    go_enter Tryd.func62, Tryd.ntmps62
    go_wp2
    go_ret
    exact ⟨rfl, rfl⟩
end Go.Proofs.YtjaeaanpbdmfgaaDoor
