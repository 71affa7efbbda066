/-
  PROVED HERE: history.readOp answers as the plain reader says, whatever the word; old memory stays as it was.
  Conditions: none.
-/
import Derived.Test.YtjaeaanpbdmfgaaDoorReadDeal
namespace Go.Proofs.YtjaeaanpbdmfgaaDoor
open Go.RowKit Go.PlainAid

/-- What readOp hands back: an op and yes; or any op and no. -/
def OpRet (e : Ending) (r : Option Op3) : Prop :=
  match r with
  | some o => e = .returned (.tuple #[.agg #[.int .i64 o.1, .int .i64 o.2.1, .int .i64 o.2.2], .bool true])
  | none => ∃ x y z : Int, e = .returned (.tuple #[.agg #[.int .i64 x, .int .i64 y, .int .i64 z], .bool false])

theorem whatI_bd (c : UInt8) : 0 ≤ whatI c ∧ whatI c ≤ 4 := by
  have := indexByte_bd [114, 119, 99, 97] c
  simp only [List.length_cons, List.length_nil] at this
  unfold whatI; omega
theorem ext_drop (s : ByteArray) (k : Nat) : (s.extract k s.size).data.toList = s.data.toList.drop k := Lib.extract_to_end s k

set_option maxHeartbeats 4000000 in
theorem readOp_any (s : ByteArray) (w : World) (hs : s.size ≤ 9223372036854775807) :
    Calls Tryd.prog 64 #[.string s] w fun e w' => OpRet e (rdOp s.data.toList) ∧ Below w.heap.size w w' := by
  have hb := get_bt s
  have HL : Hid (s.data.toList.length = s.size) := data_size s
  have hdl := Lib.toList_data s
  by_cases h0 : s.size = 0
  · have hnil : s.data.toList = [] := List.length_eq_zero_iff.1 (by rw [HL.out]; exact h0)
    have HR : Hid (rdOp s.data.toList = none) := by show rdOp s.data.toList = none; rw [hnil]; rfl
    have hem : s.toList = [] := by rw [hdl, hnil]
    clear hnil hdl
    go_enter Tryd.func64, Tryd.ntmps64
    go_wp2
    refine bodyPost_ret (v := .tuple #[.agg #[.int .i64 0, .int .i64 0, .int .i64 0], .bool false]) (by simp [results, Tryd.results64, go_sem]) rfl ⟨?_, ?_⟩
    · rw [HR.out]; exact ⟨0, 0, 0, rfl⟩
    · go_grown
  · obtain ⟨c, hd0, hbt0⟩ := drop_at (s := s) (k := 0) (by omega)
    rw [List.drop_zero] at hd0
    have hem : s.toList.isEmpty = false := by rw [hdl, hd0]; rfl
    have hpos : 0 < s.size := by omega
    have hbc : UInt8.ofNat (bt s 0).toNat = c := by rw [hbt0]; simp
    have hwb := whatI_bd c
    have hib : Lib.indexByte [114, 119, 99, 97] c = whatI c - 1 := by unfold whatI; omega
    have HS : Hid (s.data.toList = c :: s.data.toList.drop 1) := hd0
    clear hdl hd0 hbt0 h0
    by_cases hw0 : whatI c = 0
    · have HR : Hid (rdOp s.data.toList = none) := by
        show rdOp s.data.toList = none
        rw [HS.out]
        show (if whatI c = 0 then none else _) = none
        rw [if_pos hw0]
      have hw0' : (whatI c == 0) = true := by simpa using hw0
      go_enter Tryd.func64, Tryd.ntmps64
      go_wp2_with (first | (go_at_call 74; refine (indexByte_any _ _ _).mono ?_; rintro e w' ⟨rfl, rfl⟩))
      refine bodyPost_ret (v := .tuple #[.agg #[.int .i64 0, .int .i64 0, .int .i64 0], .bool false]) (by simp [results, Tryd.results64, go_sem]) rfl ⟨?_, ?_⟩
      · rw [HR.out]; exact ⟨0, 0, 0, rfl⟩
      · go_grown
    · have HR : Hid (rdOp s.data.toList = rdTail (whatI c) (s.data.toList.drop 1)) := by
        show rdOp s.data.toList = rdTail (whatI c) (s.data.toList.drop 1)
        rw [HS.out]
        show (if whatI c = 0 then none else rdTail (whatI c) (s.data.toList.drop 1)) = _
        rw [if_neg hw0]; simp
      have hw0' : (whatI c == 0) = false := by simpa using hw0
      obtain ⟨s1, hs1⟩ : ∃ s1 : ByteArray, s1 = s.extract 1 s.size := ⟨_, rfl⟩
      have hs1d : s1.data.toList = s.data.toList.drop 1 := by rw [hs1]; exact ext_drop s 1
      have hs1z : s1.size = s.size - 1 := by rw [← data_size, hs1d, List.length_drop, HL.out]
      have hs1' : s.extract 1 s.size = s1 := hs1.symm
      have HS1 : Hid (s1.data.toList = s.data.toList.drop 1) := hs1d
      rw [← hs1d] at HR
      have hs1s : s1.size ≤ 9223372036854775807 := by omega
      have HZ1 : Hid (s1.data.toList.length = s1.size) := data_size s1
      clear hs1 hs1d HS hs1z
      cases hen : endsB (whatI c) with
      | true =>
        cases hD : rdDeal s1.data.toList with
        | none =>
          have HR' : Hid (rdOp s.data.toList = none) := by show rdOp s.data.toList = none; rw [HR.out, rdTail, hen, if_pos rfl, hD]; rfl
          have HD : Hid (rdDeal s1.data.toList = none) := hD
          clear hD HR
          go_enter Tryd.func64, Tryd.ntmps64
          go_wp2_with (first | (go_at_call 74; refine (indexByte_any _ _ _).mono ?_; rintro e w1 ⟨rfl, hw1⟩; subst hw1) | (go_at_call 35; refine (ends_any _ _).mono ?_; rintro e w2 ⟨rfl, hw2⟩; subst hw2) | (go_at_call 76; refine (readDeal_any s1 _ hs1s).mono ?_; rintro e w3 ⟨rfl, hw3⟩; subst hw3; rw [HD.out]))
          refine bodyPost_ret (v := .tuple #[.agg #[.int .i64 0, .int .i64 (whatI c), .int .i64 0], .bool false]) (by simp [results, Tryd.results64, go_sem]) rfl ⟨?_, ?_⟩
          · rw [HR'.out]; exact ⟨_, _, _, rfl⟩
          · go_grown
        | some t =>
          have HR' : Hid (rdOp s.data.toList = some (t, whatI c, 0)) := by show rdOp s.data.toList = some (t, whatI c, 0); rw [HR.out, rdTail, hen, if_pos rfl, hD]; rfl
          have HD : Hid (rdDeal s1.data.toList = some t) := hD
          clear hD HR
          go_enter Tryd.func64, Tryd.ntmps64
          go_wp2_with (first | (go_at_call 74; refine (indexByte_any _ _ _).mono ?_; rintro e w1 ⟨rfl, hw1⟩; subst hw1) | (go_at_call 35; refine (ends_any _ _).mono ?_; rintro e w2 ⟨rfl, hw2⟩; subst hw2) | (go_at_call 76; refine (readDeal_any s1 _ hs1s).mono ?_; rintro e w3 ⟨rfl, hw3⟩; subst hw3; rw [HD.out]))
          refine bodyPost_ret (v := .tuple #[.agg #[.int .i64 t, .int .i64 (whatI c), .int .i64 0], .bool true]) (by simp [results, Tryd.results64, go_sem]) rfl ⟨?_, ?_⟩
          · rw [HR'.out]; exact rfl
          · go_grown
      | false =>
        by_cases h3 : 3 ≤ s1.size
        · obtain ⟨sI, hI⟩ : ∃ x : ByteArray, x = s1.extract (s1.size - 3) s1.size := ⟨_, rfl⟩
          obtain ⟨sD, hD⟩ : ∃ x : ByteArray, x = s1.extract 0 (s1.size - 3) := ⟨_, rfl⟩
          have HI : Hid (sI.data.toList = s1.data.toList.drop (s1.data.toList.length - 3)) := by
            show sI.data.toList = s1.data.toList.drop (s1.data.toList.length - 3)
            rw [hI, ext_drop, HZ1.out]
          have hDd : sD.data.toList = s1.data.toList.take (s1.data.toList.length - 3) := by
            rw [hD, Lib.extract_data, HZ1.out]; simp
          have HD : Hid (sD.data.toList = s1.data.toList.take (s1.data.toList.length - 3)) := hDd
          have hDs : sD.size ≤ 9223372036854775807 := by rw [← data_size, hDd, List.length_take, HZ1.out]; omega
          have hI' := hI.symm
          have hD' := hD.symm
          clear hI hD hDd
          by_cases hit : rdItem sI.data.toList = 0
          · have HR' : Hid (rdOp s.data.toList = none) := by
              show rdOp s.data.toList = none
              rw [HR.out, rdTail, hen, if_neg (by simp), ← HI.out, if_pos hit]
            have HIT : Hid (rdItem sI.data.toList = 0) := hit
            clear hit HR
            go_enter Tryd.func64, Tryd.ntmps64
            go_wp2_with (first | (go_at_call 74; refine (indexByte_any _ _ _).mono ?_; rintro e w1 ⟨rfl, hw1⟩; subst hw1) | (go_at_call 35; refine (ends_any _ _).mono ?_; rintro e w2 ⟨rfl, hw2⟩; subst hw2) | (go_at_call 75; refine (readItem_any sI _).mono ?_; rintro e w3 ⟨rfl, hw3⟩; subst hw3; rw [HIT.out]))
            refine bodyPost_ret (v := .tuple #[.agg #[.int .i64 0, .int .i64 0, .int .i64 0], .bool false]) (by simp [results, Tryd.results64, go_sem]) rfl ⟨?_, ?_⟩
            · rw [HR'.out]; exact ⟨_, _, _, rfl⟩
            · go_grown
          · obtain ⟨it, hit2⟩ : ∃ n, rdItem sI.data.toList = n := ⟨_, rfl⟩
            have HIT : Hid (rdItem sI.data.toList = it) := hit2
            rw [hit2] at hit
            have hit' : (it == 0) = false := by simpa using hit
            cases hdl : rdDeal sD.data.toList with
            | none =>
              have HR' : Hid (rdOp s.data.toList = none) := by
                show rdOp s.data.toList = none
                rw [HR.out, rdTail, hen, if_neg (by simp), ← HI.out, hit2, if_neg hit, ← HD.out, hdl]; rfl
              have HDL : Hid (rdDeal sD.data.toList = none) := hdl
              clear hdl hit2 hit HR
              go_enter Tryd.func64, Tryd.ntmps64
              go_wp2_with (first | (go_at_call 74; refine (indexByte_any _ _ _).mono ?_; rintro e w1 ⟨rfl, hw1⟩; subst hw1) | (go_at_call 35; refine (ends_any _ _).mono ?_; rintro e w2 ⟨rfl, hw2⟩; subst hw2) | (go_at_call 75; refine (readItem_any sI _).mono ?_; rintro e w3 ⟨rfl, hw3⟩; subst hw3; rw [HIT.out]) | (go_at_call 76; refine (readDeal_any sD _ hDs).mono ?_; rintro e w4 ⟨rfl, hw4⟩; subst hw4; rw [HDL.out]))
              refine bodyPost_ret (v := .tuple #[.agg #[.int .i64 0, .int .i64 (whatI c), .int .i64 it], .bool false]) (by simp [results, Tryd.results64, go_sem]) rfl ⟨?_, ?_⟩
              · rw [HR'.out]; exact ⟨_, _, _, rfl⟩
              · go_grown
            | some t =>
              have HR' : Hid (rdOp s.data.toList = some (t, whatI c, it)) := by
                show rdOp s.data.toList = some (t, whatI c, it)
                rw [HR.out, rdTail, hen, if_neg (by simp), ← HI.out, hit2, if_neg hit, ← HD.out, hdl]; rfl
              have HDL : Hid (rdDeal sD.data.toList = some t) := hdl
              clear hdl hit2 hit HR
              go_enter Tryd.func64, Tryd.ntmps64
              go_wp2_with (first | (go_at_call 74; refine (indexByte_any _ _ _).mono ?_; rintro e w1 ⟨rfl, hw1⟩; subst hw1) | (go_at_call 35; refine (ends_any _ _).mono ?_; rintro e w2 ⟨rfl, hw2⟩; subst hw2) | (go_at_call 75; refine (readItem_any sI _).mono ?_; rintro e w3 ⟨rfl, hw3⟩; subst hw3; rw [HIT.out]) | (go_at_call 76; refine (readDeal_any sD _ hDs).mono ?_; rintro e w4 ⟨rfl, hw4⟩; subst hw4; rw [HDL.out]))
              refine bodyPost_ret (v := .tuple #[.agg #[.int .i64 t, .int .i64 (whatI c), .int .i64 it], .bool true]) (by simp [results, Tryd.results64, go_sem]) rfl ⟨?_, ?_⟩
              · rw [HR'.out]; exact rfl
              · go_grown
        · have HR' : Hid (rdOp s.data.toList = none) := by
            show rdOp s.data.toList = none
            rw [HR.out, rdTail, hen, if_neg (by simp), if_pos (rdItem_len (by rw [List.length_drop, HZ1.out]; omega))]
          have HIT2 : Hid (rdItem s1.data.toList = 0) := rdItem_len (by rw [HZ1.out]; omega)
          have HIT : Hid (rdItem (s1.extract 0 s1.size).data.toList = 0) := rdItem_len (by rw [ext_drop, List.length_drop, HZ1.out]; omega)
          clear HR
          go_enter Tryd.func64, Tryd.ntmps64
          go_wp2_with (first | (go_at_call 74; refine (indexByte_any _ _ _).mono ?_; rintro e w1 ⟨rfl, hw1⟩; subst hw1) | (go_at_call 35; refine (ends_any _ _).mono ?_; rintro e w2 ⟨rfl, hw2⟩; subst hw2) | (go_at_call 75; refine (readItem_any _ _).mono ?_; rintro e w3 ⟨rfl, hw3⟩; subst hw3; first | rw [HIT.out] | rw [HIT2.out]))
          refine bodyPost_ret (v := .tuple #[.agg #[.int .i64 0, .int .i64 0, .int .i64 0], .bool false]) (by simp [results, Tryd.results64, go_sem]) rfl ⟨?_, ?_⟩
          · rw [HR'.out]; exact ⟨_, _, _, rfl⟩
          · go_grown
end Go.Proofs.YtjaeaanpbdmfgaaDoor
