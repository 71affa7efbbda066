/-
  PROVED HERE: history.readDeal, readItem and readOp answer as the plain readers say, whatever the text; old memory stays as it was.
  Conditions: none.
-/
import Derived.Test.YtjaeaanpbdmfgaaDoorRead
import Derived.Test.YtjaeaanpbdmfgaaDoorEnd
import Derived.PlainAid
namespace Go.Proofs.YtjaeaanpbdmfgaaDoor
open Go.RowKit Go.PlainAid

theorem data_size (s : ByteArray) : s.data.toList.length = s.size := Array.length_toList
theorem bt_at {s : ByteArray} {k : Nat} {c : UInt8} (h : s.data.toList[k]? = some c) : bt s k = c.toNat := by
  obtain ⟨hk, hc⟩ := List.getElem?_eq_some_iff.1 h
  unfold bt
  rw [dif_pos (by rw [data_size] at hk; exact hk)]
  have : s[k]'(by rw [data_size] at hk; exact hk) = c := by rw [← hc]; rfl
  rw [this]
theorem drop_at {s : ByteArray} {k : Nat} (hk : k < s.size) : ∃ c : UInt8, s.data.toList.drop k = c :: s.data.toList.drop (k + 1) ∧ bt s k = c.toNat := by
  have hk' : k < s.data.toList.length := by rw [data_size]; exact hk
  exact ⟨s.data.toList[k], List.drop_eq_getElem_cons hk', bt_at (List.getElem?_eq_getElem hk')⟩
theorem rdGo_cons (n : Int) (c : UInt8) (r : List UInt8) : rdGo n (c :: r) = if c < 48 ∨ 57 < c then none else rdGo (min (10 * n + ((c.toNat : Int) - 48)) 7) r := rfl
theorem rdGo_bad {n : Int} {c : UInt8} (r : List UInt8) (h : (c.toNat : Int) < 48 ∨ 57 < (c.toNat : Int)) : rdGo n (c :: r) = none := by
  rw [rdGo_cons, if_pos]
  rcases h with h | h
  · exact .inl (by rw [UInt8.lt_iff_toNat_lt]; simp; omega)
  · exact .inr (by rw [UInt8.lt_iff_toNat_lt]; simp; omega)
theorem rdGo_good {n : Int} {c : UInt8} (r : List UInt8) (h : 48 ≤ (c.toNat : Int)) (h2 : (c.toNat : Int) ≤ 57) : rdGo n (c :: r) = rdGo (min (10 * n + ((c.toNat : Int) - 48)) 7) r := by
  rw [rdGo_cons, if_neg]
  rintro (h1 | h1)
  · rw [UInt8.lt_iff_toNat_lt] at h1; simp at h1; omega
  · rw [UInt8.lt_iff_toNat_lt] at h1; simp at h1; omega
theorem ret_deal {x y : Int} {a b : Bool} (h : x = y) (h2 : a = b) : Ending.returned (.tuple #[.int .i64 x, .bool a]) = .returned (.tuple #[.int .i64 y, .bool b]) := by rw [h, h2]

set_option maxHeartbeats 4000000 in
theorem readDeal_any (s : ByteArray) (w : World) (hs : s.size ≤ 9223372036854775807) :
    Calls Tryd.prog 76 #[.string s] w fun e w' => e = .returned (.tuple #[.int .i64 ((rdDeal s.data.toList).getD 0), .bool (rdDeal s.data.toList).isSome]) ∧ w' = w := by
  have hb := get_bt s
  have hds := data_size s
  have hdl := Lib.toList_data s
  by_cases h0 : s.size = 0
  · have hnil : s.data.toList = [] := List.length_eq_zero_iff.1 (by omega)
    have HR : Hid (rdDeal s.data.toList = none) := by show rdDeal s.data.toList = none; rw [hnil]; rfl
    have hem : s.toList = [] := by rw [hdl, hnil]
    clear hnil hdl hds
    go_enter Tryd.func76, Tryd.ntmps76
    go_wp2
    go_ret2
    exact ⟨ret_deal (by rw [HR.out]; rfl) (by rw [HR.out]; rfl), rfl⟩
  · have hem : s.toList.isEmpty = false := by
      rw [hdl]; cases hq : s.data.toList with
      | nil => rw [hq] at hds; simp at hds; omega
      | cons a r => rfl
    obtain ⟨c, hd0, hbt0⟩ := drop_at (s := s) (k := 0) (by omega)
    rw [List.drop_zero] at hd0
    have hpos : 0 < s.size := by omega
    have HS : Hid (s.data.toList = c :: s.data.toList.drop 1) := hd0
    have HB0 : Hid (bt s 0 = c.toNat) := hbt0
    have HL : Hid (s.data.toList.length = s.size) := hds
    clear hdl hds hd0 hbt0 h0
    by_cases hz : 1 < s.size ∧ bt s 0 = 48
    · obtain ⟨h1, h2⟩ := hz
      have HR : Hid (rdDeal s.data.toList = none) := by
        show rdDeal s.data.toList = none
        rw [HS.out, rdDeal_cons, if_pos]
        refine ⟨fun e => ?_, ?_⟩
        · have := HL.out
          have := congrArg List.length e
          simp at this; omega
        · rw [HB0.out] at h2
          exact UInt8.toNat_inj.1 (by simp; omega)
      have h2' : (bt s 0 == 48) = true := by simpa using h2
      clear h2
      go_enter Tryd.func76, Tryd.ntmps76
      go_wp2
      go_ret2
      exact ⟨ret_deal (by rw [HR.out]; rfl) (by rw [HR.out]; rfl), rfl⟩
    · have HR : Hid (rdDeal s.data.toList = rdGo 0 s.data.toList) := by
        show rdDeal s.data.toList = rdGo 0 s.data.toList
        rw [HS.out, rdDeal_cons, if_neg]
        rintro ⟨e1, e2⟩
        refine hz ⟨?_, ?_⟩
        · have h1 := HL.out
          rcases Nat.lt_or_ge 1 s.size with h | h
          · exact h
          · exact absurd (List.drop_of_length_le (by omega)) e1
        · rw [HB0.out, e2]; rfl
      have hz' : s.size ≤ 1 ∨ (1 < s.size ∧ (bt s 0 == 48) = false) := by
        rcases Nat.lt_or_ge 1 s.size with h | h
        · exact .inr ⟨h, by simp; exact fun e => hz ⟨h, e⟩⟩
        · exact .inl h
      clear hz
      rcases hz' with h1 | ⟨h1, h2⟩
      all_goals
        go_enter Tryd.func76, Tryd.ntmps76
        go_wp2
        go_loop [4, 20] (fun v4 v20 => ∃ (k : Nat) (n : Int), k ≤ s.size ∧ v20 = .int .i64 k ∧ v4 = .int .i64 n ∧ 0 ≤ n ∧ n ≤ 7 ∧ rdGo n (s.data.toList.drop k) = rdDeal s.data.toList) (fun _ v20 => s.size - (intOf v20).toNat)
        case atStart => exact ⟨0, 0, Nat.zero_le _, rfl, rfl, by omega, by omega, by rw [HR.out, List.drop_zero]⟩
        case round =>
          obtain ⟨k, n, hk, rfl, rfl, hn0, hn7, hck⟩ := hrel
          have HK : Hid (rdGo n (s.data.toList.drop k) = rdDeal s.data.toList) := hck
          clear hck
          by_cases hlt : k < s.size
          · obtain ⟨d, hd1, hd2⟩ := drop_at hlt
            have HD1 : Hid (s.data.toList.drop k = d :: s.data.toList.drop (k + 1)) := hd1
            have HD2 : Hid (bt s k = d.toNat) := hd2
            clear hd1 hd2
            by_cases hl : bt s k < 48
            · have HN : Hid (rdDeal s.data.toList = none) := by
                show rdDeal s.data.toList = none
                rw [← HK.out, HD1.out, rdGo_bad _ (.inl (by rw [← HD2.out]; exact hl))]
              go_wp2
              go_ret2
              exact ⟨ret_deal (by rw [HN.out]; rfl) (by rw [HN.out]; rfl), rfl⟩
            · by_cases hg : 57 < bt s k
              · have HN : Hid (rdDeal s.data.toList = none) := by
                  show rdDeal s.data.toList = none
                  rw [← HK.out, HD1.out, rdGo_bad _ (.inr (by rw [← HD2.out]; exact hg))]
                go_wp2
                go_ret2
                exact ⟨ret_deal (by rw [HN.out]; rfl) (by rw [HN.out]; rfl), rfl⟩
              · have HG := rdGo_good (n := n) (c := d) (s.data.toList.drop (k + 1)) (by rw [← HD2.out]; omega) (by rw [← HD2.out]; omega)
                rw [← HD2.out] at HG
                have HGG : Hid (rdGo n (d :: s.data.toList.drop (k + 1)) = rdGo (min (10 * n + (bt s k - 48)) 7) (s.data.toList.drop (k + 1))) := HG
                clear HG
                by_cases h7 : 10 * n + (bt s k - 48) ≤ 7
                · have HM : Hid (min (10 * n + (bt s k - 48)) 7 = 10 * n + (bt s k - 48)) := by show min (10 * n + (bt s k - 48)) 7 = 10 * n + (bt s k - 48); omega
                  go_wp2
                  go_round
                  case rel => exact ⟨k + 1, 10 * n + (bt s k - 48), by omega, by go_num, rfl, by omega, h7, by rw [← HK.out, HD1.out, HGG.out, HM.out]⟩
                  case measure => simp [intOf]; omega
                · have HM : Hid (min (10 * n + (bt s k - 48)) 7 = 7) := by show min (10 * n + (bt s k - 48)) 7 = 7; omega
                  go_wp2
                  go_round
                  case rel => exact ⟨k + 1, 7, by omega, by go_num, by rw [if_pos (by omega)], by omega, by omega, by rw [← HK.out, HD1.out, HGG.out, HM.out]⟩
                  case measure => simp [intOf]; omega
          · have HE : Hid (rdDeal s.data.toList = some n) := by
              show rdDeal s.data.toList = some n
              rw [← HK.out, List.drop_of_length_le (by rw [HL.out]; omega)]; rfl
            go_wp2
            go_ret2
            exact ⟨ret_deal (by rw [HE.out]; rfl) (by rw [HE.out]; rfl), rfl⟩

theorem three_of' {α : Type} {l : List α} (h : l.length = 3) : ∃ a b c, l = [a, b, c] := by
  match l, h with
  | [a, b, c], _ => exact ⟨a, b, c, rfl⟩
theorem rdItem_len {l : List UInt8} (h : l.length ≠ 3) : rdItem l = 0 := by
  match l, h with
  | [], _ => rfl
  | [_], _ => rfl
  | [_, _], _ => rfl
  | [_, _, _], h => exact absurd rfl h
  | _ :: _ :: _ :: _ :: _, _ => rfl
theorem u8_eq {c d : UInt8} (h : (c.toNat : Int) = d.toNat) : c = d := UInt8.toNat_inj.1 (by omega)
theorem indexByte_bd (l : List UInt8) (c : UInt8) : -1 ≤ Lib.indexByte l c ∧ Lib.indexByte l c < l.length := by
  induction l with
  | nil => simp [Lib.indexByte]
  | cons a r ih =>
    simp only [Lib.indexByte, List.length_cons]
    by_cases h1 : (a == c) = true
    · rw [if_pos h1]; omega
    · rw [if_neg h1]
      by_cases h2 : (Lib.indexByte r c == -1) = true
      · rw [if_pos h2]; omega
      · rw [if_neg h2]; omega
set_option maxHeartbeats 2000000 in
theorem readItem_any (s : ByteArray) (w : World) :
    Calls Tryd.prog 75 #[.string s] w fun e w' => e = .returned (.int .i64 (rdItem s.data.toList)) ∧ w' = w := by
  have hb := get_bt s
  have HL : Hid (s.data.toList.length = s.size) := data_size s
  by_cases h3 : s.size = 3
  · obtain ⟨x, c, y, hl⟩ := three_of' (l := s.data.toList) (by rw [HL.out]; exact h3)
    have b0 : bt s 0 = x.toNat := bt_at (by rw [hl]; rfl)
    have b1 : bt s 1 = c.toNat := bt_at (by rw [hl]; rfl)
    have b2 : bt s 2 = y.toNat := bt_at (by rw [hl]; rfl)
    have HX : Hid (rdItem s.data.toList = if x = 40 ∧ y = 41 then itemI c else 0) := by show rdItem s.data.toList = _; rw [hl]; rfl
    have HB : Hid (bt s 0 = x.toNat ∧ bt s 1 = c.toNat ∧ bt s 2 = y.toNat) := ⟨b0, b1, b2⟩
    have hs0 : (s.size : Int) = 3 := by omega
    have hsn : 2 < s.size := by omega
    clear hl b0 b1 b2
    by_cases h0 : bt s 0 = 40
    · by_cases h2 : bt s 2 = 41
      · have HR : Hid (rdItem s.data.toList = itemI c) := by
          show rdItem s.data.toList = itemI c
          rw [HX.out, if_pos]
          exact ⟨u8_eq (by rw [← HB.out.1, h0]; rfl), u8_eq (by rw [← HB.out.2.2, h2]; rfl)⟩
        have h0' : (bt s 0 != 40) = false := by simpa using h0
        have h2' : (bt s 2 != 41) = false := by simpa using h2
        have hbc : UInt8.ofNat (bt s 1).toNat = c := by rw [HB.out.2.1]; simp
        have hbd := indexByte_bd [97, 98, 99, 100, 101, 102] c
        simp only [List.length_cons, List.length_nil] at hbd
        clear h0 h2 h3
        go_enter Tryd.func75, Tryd.ntmps75
        go_wp2_with (go_at_call 74; refine (indexByte_any _ _ _).mono ?_; rintro e w' ⟨rfl, rfl⟩)
        go_ret
        exact ⟨ret_int (by rw [HR.out, itemI]), rfl⟩
      · have HR : Hid (rdItem s.data.toList = 0) := by
          show rdItem s.data.toList = 0
          rw [HX.out, if_neg]
          rintro ⟨_, e⟩
          exact h2 (by rw [HB.out.2.2, e]; rfl)
        have h0' : (bt s 0 != 40) = false := by simpa using h0
        have h2' : (bt s 2 != 41) = true := by simpa using h2
        clear h0 h2 h3
        go_enter Tryd.func75, Tryd.ntmps75
        go_wp2
        go_ret
        exact ⟨ret_int (by rw [HR.out]), rfl⟩
    · have HR : Hid (rdItem s.data.toList = 0) := by
        show rdItem s.data.toList = 0
        rw [HX.out, if_neg]
        rintro ⟨e, _⟩
        exact h0 (by rw [HB.out.1, e]; rfl)
      have h0' : (bt s 0 != 40) = true := by simpa using h0
      clear h0 h3
      go_enter Tryd.func75, Tryd.ntmps75
      go_wp2
      go_ret
      exact ⟨ret_int (by rw [HR.out]), rfl⟩
  · have HR : Hid (rdItem s.data.toList = 0) := rdItem_len (by rw [HL.out]; exact h3)
    have h3' : ((s.size : Int) == 3) = false := by simp; omega
    go_enter Tryd.func75, Tryd.ntmps75
    go_wp2
    go_ret
    exact ⟨ret_int (by rw [HR.out]), rfl⟩
end Go.Proofs.YtjaeaanpbdmfgaaDoor
