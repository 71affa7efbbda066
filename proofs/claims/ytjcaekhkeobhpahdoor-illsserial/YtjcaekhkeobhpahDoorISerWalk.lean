/-
  PROVED HERE: lanelaw4.IllsSerial answers true, of any numbers, over whatever keeps IllsOfC, IllsFirstC and FacesC.
  Conditions: these; the list's length is one that memory can hold; the variable errors.errorType holds the handle of the type error.
-/
import Derived.Test.YtjcaekhkeobhpahDoorIFaceWalk
import Derived.Test.YtjcaekhkeobhpahDoorPieces
namespace Go.Proofs.YtjcaekhkeobhpahDoor
open Go.RowKit

theorem two1_at (W : World) : IsOps (W.alloc (.cells #[.int .i64 1, .int .i64 2, .int .i64 1, .int .i64 2, .int .i64 2, .int .i64 1] 37)) (.slice (some ⟨W.heap.size, 0, none⟩) 2 2) two1 := by
  refine ⟨some ⟨W.heap.size, 0, none⟩, W.heap.size, 0, 2, rfl, fun _ => rfl, fun h => (by cases h), .inl (by simp), opsAt_of fun j u hj => ?_⟩
  rw [Nat.zero_add]
  match j, hj with
  | 0, hj => simp [flat, two1] at hj; subst hj; simp
  | 1, hj => simp [flat, two1] at hj; subst hj; simp
  | 2, hj => simp [flat, two1] at hj; subst hj; simp
  | 3, hj => simp [flat, two1] at hj; subst hj; simp
  | 4, hj => simp [flat, two1] at hj; subst hj; simp
  | 5, hj => simp [flat, two1] at hj; subst hj; simp
  | k + 6, hj => simp [flat, two1] at hj
set_option maxHeartbeats 16000000 in
set_option maxRecDepth 100000 in
theorem iser_any (hOf : IllsOfC) (hFi : IllsFirstC) (hFa : FacesC) (l : List Int) (v : Value) (a b : Int) (w : World) (hI : IsInts w v l) (hl : l.length ≤ 140737488355328) (hg : EtAt w) :
    Calls Tryd.prog 5 #[v, .int .i64 a, .int .i64 b] w fun e w' => e = .returned (.bool true) ∧ Below w.heap.size w w' := by
  have HIE : Hid (∀ W, Below w.heap.size w W → IsInts W v l ∧ EtAt W) := fun W hW => ⟨hI.below hW (Nat.le_refl _), hg.below hW hg.lt⟩
  have HST : Hid (∀ W W', Below w.heap.size w W → Below W.heap.size W W' → Below w.heap.size w W') := fun W W' h1 h2 => h1.trans (h2.mono h1.size)
  have HONE : Hid (∀ W A, IsOps W (.slice (some ⟨A, 0, none⟩) 2 2) two1 → Calls Tryd.prog 10 #[.slice (some ⟨A, 0, none⟩) 2 2] W fun e w' => e = .returned (.tuple #[.int .i64 1, .nilIface]) ∧ Below W.heap.size W w') := fun W A hu => by
    have := hFi two1 (some ⟨A, 0, none⟩) 2 W hu (Nat.le_refl 2)
    rw [two1_first] at this
    exact this
  have HER : Hid (∀ W, Below w.heap.size w W → Calls Tryd.prog 9 #[.iface 59 (.int .i64 5), .int .i64 5] W fun e w' => e = .returned (.bool true) ∧ Below W.heap.size W w') := fun W hW => (error_hit 5 5 W (HIE.out W hW).2).mono fun _ _ ⟨he, hw⟩ => ⟨by rw [he]; rfl, hw⟩
  have HPC : Hid (∀ W, Below w.heap.size w W → (1 ≤ a ∧ a ≤ 6) → (1 ≤ b ∧ b ≤ 6) → Calls Tryd.prog 12 #[v, .int .i64 a, .int .i64 b] W fun e w' => ∃ h ad cap v2, e = .returned (.tuple #[.slice ad h.length cap, v2]) ∧ (∃ d n p, v2 = .slice d n p) ∧ IsOps w' (.slice ad h.length cap) h ∧ h.length ≤ cap ∧ (illsU h = (false, false, false, false) ∧ firstU h = (0, 5) ∧ (chk h).2 = 0 ∧ rigB h = true) ∧ Below W.heap.size W w') := fun W hW ha hb => by
    refine (pieces_own l v a b W (HIE.out W hW).1 hl).mono ?_
    rintro e w' ⟨ps, ⟨hd, _⟩, v1, v2, rfl, ho, hi, hbb⟩
    have hio := isOps_own ho rfl
    have hsl : ∃ ad cap, v1 = .slice ad (piecesL a b ps).length cap ∧ (piecesL a b ps).length ≤ cap := by
      obtain ⟨_, ⟨hv, hz⟩ | ⟨g, cap, cur, hv, _, _, hn, _⟩⟩ := ho
      · exact ⟨none, 0, by rw [hv, hz], by omega⟩
      · exact ⟨_, cap, hv, hn⟩
    obtain ⟨ad, cap, rfl, hc⟩ := hsl
    exact ⟨piecesL a b ps, ad, cap, v2, rfl, by obtain ⟨ad, _, _, cap, hv, _⟩ := hi; exact ⟨ad, _, cap, hv⟩, hio, hc, pieces_ills ha hb hd, hbb⟩
  have HOF := hid_f hOf
  have HFI := hid_f hFi
  have HFA := hid_f hFa
  obtain ⟨adl, bl, offl, capl, hv, -⟩ := hI
  subst hv
  clear hOf hFi hFa hg
  go_enter Tryd.func5, Tryd.ntmps5
  go_wp2_with fail
  obtain ⟨W1, hW1⟩ : ∃ W, W = w.alloc (.cells #[.int .i64 1, .int .i64 2, .int .i64 1, .int .i64 2, .int .i64 2, .int .i64 1] 37) := ⟨_, rfl⟩
  have hon : IsOps W1 (.slice (some ⟨w.heap.size, 0, none⟩) 2 2) two1 := by rw [hW1]; exact two1_at w
  rw [← hW1]
  have hb1 : Below w.heap.size w W1 := by rw [hW1]; exact (Below.refl _ w).alloc (Nat.le_refl _) _
  have HB1 := hid_f hb1
  have HON := hid_f hon
  obtain ⟨A, hA⟩ : ∃ A, A = w.heap.size := ⟨_, rfl⟩
  rw [← hA] at HON ⊢
  clear hW1 hon hb1 hA
  refine (HONE.out W1 _ HON.out).mono ?_
  rintro e w2 ⟨rfl, hb2⟩
  have HB2 := hid_f (HST.out _ _ HB1.out hb2)
  clear hb2 HONE HON
  go_upto_region 4 with (fail)
  by_cases ha1 : a < 1
  · go_wp2_with fail
    go_ret
    exact ⟨rfl, HB2.out⟩
  · by_cases ha6 : 6 < a
    · go_wp2_with fail
      go_ret
      exact ⟨rfl, HB2.out⟩
    · by_cases hb1 : b < 1
      · go_wp2_with fail
        go_ret
        exact ⟨rfl, HB2.out⟩
      · by_cases hb6 : 6 < b
        · go_wp2_with fail
          go_ret
          exact ⟨rfl, HB2.out⟩
        · have HP := hid_f (HPC.out w2 HB2.out ⟨by omega, by omega⟩ ⟨by omega, by omega⟩)
          clear HPC
          go_wp2_with fail
          refine HP.out.mono ?_
          rintro e w3 ⟨h, ad, cap, v2, rfl, ⟨d2, n2, c2, rfl⟩, hio, hcap, ⟨hu, hf, hc, hr⟩, hb3⟩
          have HB3 := hid_f (HST.out _ _ HB2.out hb3)
          have HO0 : Hid (∀ W, Below w3.heap.size w3 W → Calls Tryd.prog 8 #[.slice ad h.length cap] W fun e w' => e = .returned (.tuple #[.agg #[.bool false, .bool false, .bool false, .bool false], .nilIface]) ∧ Below W.heap.size W w') := fun W hW => by have := HOF.out h ad cap W (hio.below hW (Nat.le_refl _)) hcap; rw [hu, hc] at this; exact this
          have HF0 : Hid (∀ W, Below w3.heap.size w3 W → Calls Tryd.prog 10 #[.slice ad h.length cap] W fun e w' => e = .returned (.tuple #[.int .i64 0, .iface 59 (.int .i64 5)]) ∧ Below W.heap.size W w') := fun W hW => by have := HFI.out h ad cap W (hio.below hW (Nat.le_refl _)) hcap; rw [hf] at this; exact this
          have HA0 : Hid (∃ r c s, ∀ W, Below w3.heap.size w3 W → Calls Tryd.prog 11 #[.slice ad h.length cap] W fun e w' => e = .returned (.tuple #[.agg #[.bool r, .bool c, .bool s, .bool true], .nilIface]) ∧ Below W.heap.size W w') := by
            refine ⟨recB h, cauB h, strB h, fun W hW => ?_⟩
            have := HFA.out h ad cap W (hio.below hW (Nat.le_refl _)) hcap
            unfold facesU at this
            rw [if_neg (by rw [hc]; decide), hc, hr] at this
            exact this
          obtain ⟨fr, fc, fs, hA0⟩ := HA0.out
          have HA1 := hid_f hA0
          have HSU : Hid (∀ W W', Below w3.heap.size w3 W → Below W.heap.size W W' → Below w3.heap.size w3 W') := fun W W' h1 h2 => h1.trans (h2.mono h1.size)
          obtain ⟨nh, hnh⟩ : ∃ n, h.length = n := ⟨_, rfl⟩
          rw [hnh] at HO0 HF0 HA1 ⊢
          clear hio hcap hu hf hc hr hb3 hA0 HA0 hnh HP
          go_wp2_with fail
          refine (HO0.out w3 (Below.refl _ _)).mono ?_
          rintro e w4 ⟨rfl, hb4⟩
          have HC4 := hid_f hb4
          clear hb4
          go_upto_region 8 with (fail)
          obtain ⟨W5, hW5⟩ : ∃ W, W = w4.alloc (.cells #[.bool false, .bool false, .bool false, .bool false] 25) := ⟨_, rfl⟩
          rw [← hW5]
          have hbn : Below w4.heap.size w4 W5 := by rw [hW5]; exact (Below.refl _ w4).alloc (Nat.le_refl _) _
          have HX5 : Hid (IlBox W5 w4.heap.size (false, false, false, false)) := by show IlBox _ _ _; rw [hW5]; exact ilBox_new _ _ _ _ _ _
          have HC5 := hid_f (HSU.out _ _ HC4.out hbn)
          obtain ⟨P, hP⟩ : ∃ P, P = w4.heap.size := ⟨_, rfl⟩
          rw [← hP] at HX5 ⊢
          clear hW5 hbn hP
          go_wp2_with fail
          refine (HF0.out W5 HC5.out).mono ?_
          rintro e w6 ⟨rfl, hb6⟩
          have HX6 := hid_f (HX5.out.below hb6)
          have HC6 := hid_f (HSU.out _ _ HC5.out hb6)
          clear hb6
          go_wp2_with fail
          refine (HA1.out w6 HC6.out).mono ?_
          rintro e w7 ⟨rfl, hb7⟩
          have HX7 := hid_f (HX6.out.below hb7)
          have HC7 := hid_f (HSU.out _ _ HC6.out hb7)
          clear hb7
          go_upto_region 10 with (fail)
          obtain ⟨W8, hW8⟩ : ∃ W, W = w7.alloc (.cells #[.bool fr, .bool fc, .bool fs, .bool true] 39) := ⟨_, rfl⟩
          rw [← hW8]
          have hbn : Below w7.heap.size w7 W8 := by rw [hW8]; exact (Below.refl _ w7).alloc (Nat.le_refl _) _
          have HX8 := hid_f (HX7.out.below hbn)
          have HF8 : Hid (IlBox W8 w7.heap.size (fr, fc, fs, true)) := by show IlBox _ _ _; rw [hW8]; exact ilBox_new _ _ _ _ _ _
          have HC8 := hid_f (HSU.out _ _ HC7.out hbn)
          obtain ⟨Q, hQ⟩ : ∃ Q, Q = w7.heap.size := ⟨_, rfl⟩
          rw [← hQ] at HF8 ⊢
          have HB8 := hid_f (HST.out _ _ HB3.out HC8.out)
          clear hW8 hbn hQ
          go_wp2_with fail
          refine (HER.out W8 HB8.out).mono ?_
          rintro e w9 ⟨rfl, hb9⟩
          have HB9 := hid_f (HST.out _ _ HB8.out hb9)
          obtain ⟨x0, x1, x2, x3⟩ := HX8.out.below hb9
          obtain ⟨-, -, -, y3⟩ := HF8.out.below hb9
          simp only at x0 x1 x2 x3 y3
          clear hb9
          go_wp2_with fail
          go_ret
          exact ⟨rfl, HB9.out⟩
end Go.Proofs.YtjcaekhkeobhpahDoor
