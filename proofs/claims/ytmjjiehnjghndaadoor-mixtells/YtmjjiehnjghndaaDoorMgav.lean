/-
  PROVED HERE: lanelaw3.MixTells answers true, of any ops and number, over whatever keeps MCountC, MGoodC, MNthC and RefOrdC.
  Conditions: these; the slice is no longer than its capacity; the variable errors.errorType holds the handle of the type error.
  PROVED HERE: serial.doneDeals gives what is done, and of which deals, in memory of its own; of a wrong list Check's error. Old memory stays as it was.
  Conditions: none.
  (Of these, what the claim wants: the rest was left out.)
-/
import Derived.Test.YtmjjiehnjghndaaDoorMgat
import Derived.Test.YtmjjiehnjghndaaDoorMgap
import Derived.Test.YtmjjiehnjghndaaDoorMgau
import Derived.Test.YtmjjiehnjghndaaDoorMgak
import Derived.Test.YtmjjiehnjghndaaDoorMgam
import Derived.Deep.Onto
import Derived.Deep.QuietTactic
import Derived.BigQuiet
import Derived.WalkSmall
namespace Go.Proofs.YtmjjiehnjghndaaDoor
open Go.RowKit

/-- What laneref1.Order is. -/
def RefOrdC : Prop := ∀ (l : List Op3) (v : Value) (w : World), IsOps w v l → (chk l).2 = 0 → Calls Tryd.prog 6 #[v] w fun e w' => ∃ v', e = .returned (.tuple #[v', .bool (serOrd (doneL l)).isSome]) ∧ IsInts w' v' ((serOrd (doneL l)).getD []) ∧ Below w.heap.size w w'
theorem err_m (n : Int) (w : World) (hg : EtAt w) : Calls Tryd.prog 8 #[errV n, .int .i64 n] w fun e w' => e = .returned (.bool true) ∧ Below w.heap.size w w' := by
  by_cases h : n = 0
  · subst h
    exact (error_nil 0 w).mono fun _ _ ⟨he, hw⟩ => ⟨he, by rw [hw]; exact Below.refl _ _⟩
  · have e0 : errV n = .iface 50 (.int .i64 n) := by unfold errV; rw [if_neg h]
    rw [e0]
    exact (error_hit n n w hg).mono fun _ _ ⟨he, hw⟩ => ⟨by rw [he]; simp, hw⟩
def goodTo (ls : List (List Op3)) (i : Nat) : Nat := ((ls.take i).filter fun x => (serOrd (doneL x)).isSome).length
theorem goodTo_succ {ls : List (List Op3)} {i : Nat} (h : i < ls.length) : goodTo ls (i + 1) = goodTo ls i + (if (serOrd (doneL (ls.getD i []))).isSome = true then 1 else 0) := by
  unfold goodTo
  rw [List.take_succ_eq_append_getElem h, List.filter_append, List.length_append]
  have e : ls.getD i [] = ls[i] := by simp [List.getD, List.getElem?_eq_getElem h]
  rw [e]
  congr 1
  by_cases hs : (serOrd (doneL ls[i])).isSome = true
  · simp [hs]
  · simp [hs]
theorem goodTo_end (ls : List (List Op3)) : goodTo ls ls.length = (ls.filter fun x => (serOrd (doneL x)).isSome).length := by unfold goodTo; rw [List.take_length]
theorem goodTo_le (ls : List (List Op3)) (i : Nat) : goodTo ls i ≤ i := by
  unfold goodTo
  have h1 := List.length_filter_le (fun x => (serOrd (doneL x)).isSome) (ls.take i)
  rw [List.length_take] at h1
  omega
set_option maxHeartbeats 16000000 in
set_option maxRecDepth 100000 in
theorem mtell_bad (hC : MCountC) (hG : MGoodC) (hN : MNthC) (l : List Op3) (ad : Option Addr) (cap : Nat) (k : Int) (w : World) (hI : IsOps w (.slice ad l.length cap) l) (hcap : l.length ≤ cap) (hg : EtAt w) (hx : mixE l ≠ 0) :
    Calls Tryd.prog 3 #[.slice ad l.length cap, .int .i64 k] w fun e w' => e = .returned (.bool true) ∧ Below w.heap.size w w' := by
  have HIE : Hid (∀ W, Below w.heap.size w W → IsOps W (.slice ad l.length cap) l ∧ EtAt W) := fun W hW => ⟨hI.below hW (Nat.le_refl _), hg.below hW hg.lt⟩
  have HST : Hid (∀ W W', Below w.heap.size w W → Below W.heap.size W W' → Below w.heap.size w W') := fun W W' h1 h2 => h1.trans (h2.mono h1.size)
  have HRR := hid_m (refRight_any l _ w hI)
  have hm : mixM l = [] := by unfold mixM; rw [if_neg hx]
  have hgn : goodN l = 0 := by unfold goodN; rw [hm]; rfl
  have hne : nthE l k = mixE l := by unfold nthE; rw [if_pos hx]
  have hnl : nthL l k = [] := by unfold nthL; rw [hne, if_neg hx]
  have HCO : Hid (∀ W, Below w.heap.size w W → Calls Tryd.prog 7 #[.slice ad l.length cap] W fun e w' => e = .returned (.tuple #[.int .i64 0, errV (mixE l)]) ∧ Below W.heap.size W w') := fun W hW => by
    have := hC l ad cap W (HIE.out W hW).1 hcap
    rw [hm] at this
    exact this
  have HGO : Hid (∀ W, Below w.heap.size w W → Calls Tryd.prog 9 #[.slice ad l.length cap] W fun e w' => e = .returned (.tuple #[.int .i64 0, errV (mixE l)]) ∧ Below W.heap.size W w') := fun W hW => by
    have := hG l ad cap W (HIE.out W hW).1 hcap
    rw [hgn] at this
    exact this
  have HNT : Hid (∀ W, Below w.heap.size w W → Calls Tryd.prog 10 #[.slice ad l.length cap, .int .i64 k] W fun e w' => ∃ v', e = .returned (.tuple #[v', errV (mixE l)]) ∧ IsOps w' v' [] ∧ Below W.heap.size W w') := fun W hW => by
    have := hN l ad cap k W (HIE.out W hW).1 hcap
    rw [hne, hnl] at this
    exact this
  have HER : Hid (∀ W, Below w.heap.size w W → Calls Tryd.prog 8 #[errV (mixE l), .int .i64 (mixE l)] W fun e w' => e = .returned (.bool true) ∧ Below W.heap.size W w') := fun W hW => err_m _ W (HIE.out W hW).2
  have HSO : Hid (∀ W v, IsOps W v [] → Calls Tryd.prog 11 #[v, .slice none 0 0] W fun e w' => e = .returned (.bool true) ∧ Below W.heap.size W w') := fun W v hv => same_ops2 [] [] v _ W hv (isOps_nil W) (by simp) (by simp)
  have hE : errV (mixE l) = .iface 50 (.int .i64 (mixE l)) := by unfold errV; rw [if_neg hx]
  rw [hE] at HCO HGO HNT HER
  clear hC hG hN hm hgn hne hnl hE hg
  have hEr : ∀ x : Int, Value.iface 50 (.int .i64 x) = Value.iface 50 (.int .i64 x) := fun _ => rfl
  obtain ⟨x, hxx⟩ : ∃ x, mixE l = x := ⟨_, rfl⟩
  have hx0 : (x == 0) = false := by rw [← hxx]; simpa using hx
  have hcase : ((chk l).2 = 0 ∧ 8 < l.length ∧ x = 4) ∨ (chk l).2 = x := by
    rw [← hxx]
    unfold mixE at hx ⊢
    by_cases hc : (chk l).2 = 0
    · rw [if_neg (by rw [hc]; decide)] at hx ⊢
      by_cases h8 : 8 < l.length
      · rw [if_pos h8]; exact .inl ⟨hc, h8, rfl⟩
      · rw [if_neg h8] at hx; exact absurd rfl hx
    · rw [if_pos hc]; exact .inr rfl
  rw [hxx] at HCO HGO HNT HER
  rcases hcase with ⟨h1, h2, rfl⟩ | h1
  · rw [h1] at HRR
    have h2' : (8 : Int) < (l.length : Int) := by omega
    obtain ⟨n, hn⟩ : ∃ n, l.length = n := ⟨_, rfl⟩
    rw [hn] at HRR HCO HGO HNT h2' ⊢
    clear h1 h2 hn hx0 hxx hx hI hcap HIE hEr
    go_enter Tryd.func3, Tryd.ntmps3
    go_wp2_with fail
    refine HRR.out.mono ?_
    rintro e w1 ⟨rfl, hb1⟩
    have HB1 := hid_m hb1
    clear hb1
    go_wp2_with fail
    go_loopw [7, 8] (fun v7 v8 V => v7 = .int .i64 0 ∧ v8 = .int .i64 0 ∧ Below w1.heap.size w1 V) (fun _ _ _ => 0)
    case atStart => exact ⟨rfl, rfl, Below.refl _ _⟩
    case round =>
      obtain ⟨rfl, rfl, hbel⟩ := hrel
      have HBE := hid_m (HST.out _ _ HB1.out hbel)
      clear hbel
      go_wp2_with fail
      refine (HCO.out wr HBE.out).mono ?_
      rintro e w2 ⟨rfl, hb2⟩
      have HB2 := hid_m (HST.out _ _ HBE.out hb2)
      clear hb2
      go_wp2_with fail
      refine (HER.out w2 HB2.out).mono ?_
      rintro e w3 ⟨rfl, hb3⟩
      have HB3 := hid_m (HST.out _ _ HB2.out hb3)
      clear hb3
      go_wp2_with fail
      refine (HGO.out w3 HB3.out).mono ?_
      rintro e w4 ⟨rfl, hb4⟩
      have HB4 := hid_m (HST.out _ _ HB3.out hb4)
      clear hb4
      go_wp2_with fail
      refine (HER.out w4 HB4.out).mono ?_
      rintro e w5 ⟨rfl, hb5⟩
      have HB5 := hid_m (HST.out _ _ HB4.out hb5)
      clear hb5
      go_wp2_with fail
      refine (HNT.out w5 HB5.out).mono ?_
      rintro e w6 ⟨gv, rfl, hg6, hb6⟩
      have HB6 := hid_m (HST.out _ _ HB5.out hb6)
      have HG6 := hid_m hg6
      obtain ⟨gad, gcap, rfl⟩ := opsShape hg6
      clear hb6 hg6
      go_wp2_with fail
      refine (HER.out w6 HB6.out).mono ?_
      rintro e w7 ⟨rfl, hb7⟩
      have HB7 := hid_m (HST.out _ _ HB6.out hb7)
      have HS7 := hid_m (HSO.out w7 _ (HG6.out.below hb7 (Nat.le_refl _)))
      clear hb7
      go_wp2_with fail
      refine HS7.out.mono ?_
      rintro e w8 ⟨rfl, hb8⟩
      have HB8 := hid_m (HST.out _ _ HB7.out hb8)
      clear hb8
      go_wp2_with fail
      go_ret
      exact ⟨rfl, HB8.out⟩
  · rw [h1] at HRR
    obtain ⟨n, hn⟩ : ∃ n, l.length = n := ⟨_, rfl⟩
    rw [hn] at HRR HCO HGO HNT ⊢
    clear h1 hn hxx hx hI hcap HIE hEr
    go_enter Tryd.func3, Tryd.ntmps3
    go_wp2_with fail
    refine HRR.out.mono ?_
    rintro e w1 ⟨rfl, hb1⟩
    have HB1 := hid_m hb1
    clear hb1
    go_wp2_with fail
    go_loopw [7, 8] (fun v7 v8 V => v7 = .int .i64 0 ∧ v8 = .int .i64 0 ∧ Below w1.heap.size w1 V) (fun _ _ _ => 0)
    case atStart => exact ⟨rfl, rfl, Below.refl _ _⟩
    case round =>
      obtain ⟨rfl, rfl, hbel⟩ := hrel
      have HBE := hid_m (HST.out _ _ HB1.out hbel)
      clear hbel
      go_wp2_with fail
      refine (HCO.out wr HBE.out).mono ?_
      rintro e w2 ⟨rfl, hb2⟩
      have HB2 := hid_m (HST.out _ _ HBE.out hb2)
      clear hb2
      go_wp2_with fail
      refine (HER.out w2 HB2.out).mono ?_
      rintro e w3 ⟨rfl, hb3⟩
      have HB3 := hid_m (HST.out _ _ HB2.out hb3)
      clear hb3
      go_wp2_with fail
      refine (HGO.out w3 HB3.out).mono ?_
      rintro e w4 ⟨rfl, hb4⟩
      have HB4 := hid_m (HST.out _ _ HB3.out hb4)
      clear hb4
      go_wp2_with fail
      refine (HER.out w4 HB4.out).mono ?_
      rintro e w5 ⟨rfl, hb5⟩
      have HB5 := hid_m (HST.out _ _ HB4.out hb5)
      clear hb5
      go_wp2_with fail
      refine (HNT.out w5 HB5.out).mono ?_
      rintro e w6 ⟨gv, rfl, hg6, hb6⟩
      have HB6 := hid_m (HST.out _ _ HB5.out hb6)
      have HG6 := hid_m hg6
      obtain ⟨gad, gcap, rfl⟩ := opsShape hg6
      clear hb6 hg6
      go_wp2_with fail
      refine (HER.out w6 HB6.out).mono ?_
      rintro e w7 ⟨rfl, hb7⟩
      have HB7 := hid_m (HST.out _ _ HB6.out hb7)
      have HS7 := hid_m (HSO.out w7 _ (HG6.out.below hb7 (Nat.le_refl _)))
      clear hb7
      go_wp2_with fail
      refine HS7.out.mono ?_
      rintro e w8 ⟨rfl, hb8⟩
      have HB8 := hid_m (HST.out _ _ HB7.out hb8)
      clear hb8
      go_wp2_with fail
      go_ret
      exact ⟨rfl, HB8.out⟩
set_option maxHeartbeats 16000000 in
set_option maxRecDepth 100000 in
theorem mtell_ok (hC : MCountC) (hG : MGoodC) (hN : MNthC) (hRO : RefOrdC) (l : List Op3) (ad : Option Addr) (cap : Nat) (k : Int) (w : World) (hI : IsOps w (.slice ad l.length cap) l) (hcap : l.length ≤ cap) (hg : EtAt w) (hx : mixE l = 0) :
    Calls Tryd.prog 3 #[.slice ad l.length cap, .int .i64 k] w fun e w' => e = .returned (.bool true) ∧ Below w.heap.size w w' := by
  obtain ⟨hc, hl8⟩ := mixE_zero hx
  have HIE : Hid (∀ W, Below w.heap.size w W → IsOps W (.slice ad l.length cap) l ∧ EtAt W) := fun W hW => ⟨hI.below hW (Nat.le_refl _), hg.below hW hg.lt⟩
  have HST : Hid (∀ W W', Below w.heap.size w W → Below W.heap.size W W' → Below w.heap.size w W') := fun W W' h1 h2 => h1.trans (h2.mono h1.size)
  have HRR := hid_m (refRight_any l _ w hI)
  rw [hc] at HRR
  have hm : mixM l = mixL l := by unfold mixM; rw [if_pos hx]
  obtain ⟨ls, hls⟩ : ∃ ls, mixL l = ls := ⟨_, rfl⟩
  have hgn : goodN l = goodTo ls ls.length := by rw [goodTo_end]; unfold goodN; rw [hm, hls]
  have HAL : Hid (∀ W, Below w.heap.size w W → Calls Tryd.prog 5 #[.slice ad l.length cap] W fun e w' => ∃ v' us, e = .returned v' ∧ w'.ownsRow W.heap.size 22 1 v' us.length us ∧ ManyV w' us ls ∧ Below W.heap.size W w') := fun W hW => by rw [← hls]; exact allMix_any l _ W (HIE.out W hW).1 hl8 (chk_deal hc)
  have HCO : Hid (∀ W, Below w.heap.size w W → Calls Tryd.prog 7 #[.slice ad l.length cap] W fun e w' => e = .returned (.tuple #[.int .i64 ls.length, .nilIface]) ∧ Below W.heap.size W w') := fun W hW => by
    have := hC l ad cap W (HIE.out W hW).1 hcap
    rw [hm, hls, hx] at this
    exact this
  have HGO : Hid (∀ W, Below w.heap.size w W → Calls Tryd.prog 9 #[.slice ad l.length cap] W fun e w' => e = .returned (.tuple #[.int .i64 (goodTo ls ls.length), .nilIface]) ∧ Below W.heap.size W w') := fun W hW => by
    have := hG l ad cap W (HIE.out W hW).1 hcap
    rw [hgn, hx] at this
    exact this
  have HNT : Hid (∀ W, Below w.heap.size w W → Calls Tryd.prog 10 #[.slice ad l.length cap, .int .i64 k] W fun e w' => ∃ v', e = .returned (.tuple #[v', errV (nthE l k)]) ∧ IsOps w' v' (nthL l k) ∧ Below W.heap.size W w') := fun W hW => hN l ad cap k W (HIE.out W hW).1 hcap
  have hnE : nthE l k = if k < 0 ∨ (ls.length : Int) ≤ k then 1 else 0 := by unfold nthE; rw [if_neg (by rw [hx]; decide), hm, hls]
  have hnL : nthL l k = if k < 0 ∨ (ls.length : Int) ≤ k then [] else ls.getD k.toNat [] := by
    unfold nthL
    rw [hnE, hm, hls]
    by_cases h : k < 0 ∨ (ls.length : Int) ≤ k
    · rw [if_pos h, if_pos h, if_neg (by decide)]
    · rw [if_neg h, if_neg h, if_pos rfl]
  rw [hnE, hnL] at HNT
  have HER : Hid (∀ n W, Below w.heap.size w W → Calls Tryd.prog 8 #[errV n, .int .i64 n] W fun e w' => e = .returned (.bool true) ∧ Below W.heap.size W w') := fun n W hW => err_m n W (HIE.out W hW).2
  have HE0 : Hid (∀ W, Below w.heap.size w W → Calls Tryd.prog 8 #[.nilIface, .int .i64 0] W fun e w' => e = .returned (.bool true) ∧ Below W.heap.size W w') := HER.out 0
  have HE1 : Hid (∀ W, Below w.heap.size w W → Calls Tryd.prog 8 #[.iface 50 (.int .i64 1), .int .i64 1] W fun e w' => e = .returned (.bool true) ∧ Below W.heap.size W w') := HER.out 1
  have HSO : Hid (∀ W v u m, m.length ≤ 8 → IsOps W v m → IsOps W u m → Calls Tryd.prog 11 #[v, u] W fun e w' => e = .returned (.bool true) ∧ Below W.heap.size W w') := fun W v u m hm hv hu => by
    have := same_ops2 m m v u W hv hu (by omega) (by omega)
    rw [decide_eq_true rfl] at this
    exact this
  have HLS : Hid (∀ x ∈ ls, (chk x).2 = 0 ∧ x.length ≤ 8) := fun x hx2 => by
    rw [← hls] at hx2
    exact ⟨mix_chk hc hx2, by rw [mix_len _ _ x hx2]; exact hl8⟩
  have HRO := hid_m hRO
  have hlb : ls.length ≤ 1679616 := by
    rw [← hls]
    have h2 := mixG_bound l.length (rowsL l)
    have h3 : 6 ^ l.length ≤ 6 ^ 8 := Nat.pow_le_pow_right (by decide) hl8
    have h4 : (6 : Nat) ^ 8 = 1679616 := by decide
    unfold mixL
    omega
  obtain ⟨n, hn⟩ : ∃ n, l.length = n := ⟨_, rfl⟩
  have hl8' : ¬ (8 : Int) < (n : Int) := by omega
  rw [hn] at HRR HAL HCO HGO HNT ⊢
  clear hC hG hN hRO hm hgn hg hx hc hl8 hls hnE hnL hcap hI hn HIE HER
  go_enter Tryd.func3, Tryd.ntmps3
  go_wp2_with fail
  refine HRR.out.mono ?_
  rintro e w1 ⟨rfl, hb1⟩
  have HB1 := hid_m hb1
  clear hb1
  go_wp2_with fail
  refine (HAL.out w1 HB1.out).mono ?_
  rintro e w2 ⟨av, us, rfl, ho2, hm2, hb2⟩
  have HB2 := hid_m (HST.out _ _ HB1.out hb2)
  have hul : us.length = ls.length := hm2.1
  obtain ⟨aad, acap, rfl, hac⟩ := own_capM ho2
  have HAT : Hid (∀ V, Below w2.heap.size w2 V → ∀ i, i < ls.length → ∃ g uad ucap, aad = some ⟨g, 0, none⟩ ∧ V.cell? ⟨g, i, none⟩ = some (.slice uad (ls.getD i []).length ucap) ∧ IsOps V (.slice uad (ls.getD i []).length ucap) (ls.getD i []) ∧ ls.getD i [] ∈ ls) := fun V hV i hi => by
    have hiu : i < us.length := by omega
    have hI := hm2.2 i hi
    obtain ⟨uad, ucap, hu⟩ := opsShape hI
    have ho := ho2
    obtain ⟨_, ⟨hv, hz⟩ | ⟨g, cap, cur, hv, _⟩⟩ := ho2
    · omega
    · simp only [Value.slice.injEq] at hv
      obtain ⟨rfl, _, rfl⟩ := hv
      have hcell := ho.cells (g := g) rfl i (us.getD i undef) (by simp [List.getD, List.getElem?_eq_getElem hiu])
      rw [Addr.add_lit] at hcell
      have hcell' : w2.cell? ⟨g, i, none⟩ = some (us.getD i undef) := by simpa using hcell
      refine ⟨g, uad, ucap, rfl, ?_, ?_, by simp [List.getD, List.getElem?_eq_getElem hi]⟩
      · rw [← hu]; exact (hV.cell (p := ⟨g, i, none⟩) (World.block_lt_of_cell? w2 _ hcell')).trans hcell'
      · rw [← hu]; exact hI.below hV (Nat.le_refl _)
  rw [hul]
  clear ho2 hm2 hb2 hul hac HAL HRR
  go_wp2_with fail
  go_loopw [7, 8, 9, 10] (fun v7 v8 _ _ V => ∃ i : Nat, i ≤ ls.length ∧ v8 = .int .i64 i ∧ v7 = .int .i64 (goodTo ls i) ∧ Below w2.heap.size w2 V) (fun _ v8 _ _ _ => ls.length - (intOf v8).toNat)
  case atStart => exact ⟨0, Nat.zero_le _, rfl, rfl, Below.refl _ _⟩
  case round =>
    obtain ⟨i, hi, rfl, rfl, hbel⟩ := hrel
    have HBE := hid_m hbel
    clear hbel
    by_cases hlt : i < ls.length
    · have hlt' : (i : Int) < (ls.length : Int) := by omega
      obtain ⟨g, uad, ucap, rfl, hcell, hIo, hmem⟩ := HAT.out wr HBE.out i hlt
      have HRD := hid_m (HRO.out _ _ wr hIo (HLS.out _ hmem).1)
      have HGS := hid_m (goodTo_succ hlt)
      have hgl := goodTo_le ls i
      obtain ⟨x, hx⟩ : ∃ x, ls.getD i [] = x := ⟨_, rfl⟩
      rw [hx] at hcell HRD HGS
      obtain ⟨xn, hxn⟩ : ∃ n, x.length = n := ⟨_, rfl⟩
      rw [hxn] at hcell HRD
      obtain ⟨gd, hgd⟩ : ∃ gd, goodTo ls i = gd := ⟨_, rfl⟩
      rw [hgd] at hgl HGS ⊢
      clear hIo hmem hx hxn hgd
      cases hs : (serOrd (doneL x)).isSome with
      | true =>
        rw [hs] at HRD
        rw [if_pos hs] at HGS
        clear hs
        go_wp2_with fail
        refine HRD.out.mono ?_
        rintro e w3 ⟨ov, rfl, hio, hb3⟩
        have HB3 := hid_m (HBE.out.trans (hb3.mono HBE.out.size))
        obtain ⟨oad, on, ocap, rfl⟩ : ∃ ad n cap, ov = .slice ad n cap := by
          obtain ⟨ad, _, _, cap, hv, _⟩ := hio
          exact ⟨ad, _, cap, hv⟩
        clear hio hb3 hcell
        go_wp2_with fail
        go_roundw
        case rel => exact ⟨i + 1, by omega, by go_num, by rw [HGS.out]; go_num, HB3.out⟩
        case measure => simp [intOf]; omega
      | false =>
        rw [hs] at HRD
        rw [if_neg (by rw [hs]; decide)] at HGS
        clear hs
        go_wp2_with fail
        refine HRD.out.mono ?_
        rintro e w3 ⟨ov, rfl, hio, hb3⟩
        have HB3 := hid_m (HBE.out.trans (hb3.mono HBE.out.size))
        obtain ⟨oad, on, ocap, rfl⟩ : ∃ ad n cap, ov = .slice ad n cap := by
          obtain ⟨ad, _, _, cap, hv, _⟩ := hio
          exact ⟨ad, _, cap, hv⟩
        clear hio hb3 hcell
        go_wp2_with fail
        go_roundw
        case rel => exact ⟨i + 1, by omega, by go_num, by rw [HGS.out]; first | rfl | simp, HB3.out⟩
        case measure => simp [intOf]; omega
    · obtain rfl : i = ls.length := by omega
      have hlt' : ¬ (ls.length : Int) < (ls.length : Int) := by omega
      have HBF := hid_m (HST.out _ _ HB2.out HBE.out)
      obtain ⟨gd, hgd⟩ : ∃ gd, goodTo ls ls.length = gd := ⟨_, rfl⟩
      rw [hgd] at HGO ⊢
      clear hgd
      go_wp2_with fail
      refine (HCO.out wr HBF.out).mono ?_
      rintro e w3 ⟨rfl, hb3⟩
      have HW3 := hid_m hb3
      have HB3 := hid_m (HST.out _ _ HBF.out hb3)
      clear hb3
      go_wp2_with fail
      refine (HE0.out w3 HB3.out).mono ?_
      rintro e w4 ⟨rfl, hb4⟩
      have HW4 := hid_m (HW3.out.trans (hb4.mono HW3.out.size))
      have HB4 := hid_m (HST.out _ _ HB3.out hb4)
      clear hb4
      go_wp2_with fail
      refine (HGO.out w4 HB4.out).mono ?_
      rintro e w5 ⟨rfl, hb5⟩
      have HW5 := hid_m (HW4.out.trans (hb5.mono HW4.out.size))
      have HB5 := hid_m (HST.out _ _ HB4.out hb5)
      clear hb5
      go_wp2_with fail
      refine (HE0.out w5 HB5.out).mono ?_
      rintro e w6 ⟨rfl, hb6⟩
      have HW6 := hid_m (HW5.out.trans (hb6.mono HW5.out.size))
      have HB6 := hid_m (HST.out _ _ HB5.out hb6)
      clear hb6 HW3 HW4 HW5 HGO HCO HRO HB3 HB4 HB5 HBF
      rcases (show k < 0 ∨ (¬ k < 0 ∧ (ls.length : Int) ≤ k) ∨ (¬ k < 0 ∧ ¬ (ls.length : Int) ≤ k) by omega) with hk | ⟨hk, hk2⟩ | ⟨hk, hk2⟩
      · rw [if_pos (.inl hk), if_pos (.inl hk)] at HNT
        have HN1 : Hid (∀ W, Below w.heap.size w W → Calls Tryd.prog 10 #[.slice ad n cap, .int .i64 k] W fun e w' => ∃ v', e = .returned (.tuple #[v', .iface 50 (.int .i64 1)]) ∧ IsOps w' v' [] ∧ Below W.heap.size W w') := HNT.out
        clear HNT
        go_wp2_with fail
        refine (HN1.out w6 HB6.out).mono ?_
        rintro e w7 ⟨gv, rfl, hg7, hb7⟩
        have HB7 := hid_m (HST.out _ _ HB6.out hb7)
        have HG7 := hid_m hg7
        obtain ⟨gad, gcap, rfl⟩ := opsShape hg7
        clear hb7 hg7
        go_wp2_with fail
        refine (HE1.out w7 HB7.out).mono ?_
        rintro e w8 ⟨rfl, hb8⟩
        have HB8 := hid_m (HST.out _ _ HB7.out hb8)
        have HS8 := hid_m (HSO.out w8 _ _ [] (by simp) (HG7.out.below hb8 (Nat.le_refl _)) (isOps_nil w8))
        clear hb8
        go_wp2_with fail
        refine HS8.out.mono ?_
        rintro e w9 ⟨rfl, hb9⟩
        have HB9 := hid_m (HST.out _ _ HB8.out hb9)
        clear hb9
        go_wp2_with fail
        go_ret
        exact ⟨rfl, HB9.out⟩
      · rw [if_pos (.inr hk2), if_pos (.inr hk2)] at HNT
        have HN1 : Hid (∀ W, Below w.heap.size w W → Calls Tryd.prog 10 #[.slice ad n cap, .int .i64 k] W fun e w' => ∃ v', e = .returned (.tuple #[v', .iface 50 (.int .i64 1)]) ∧ IsOps w' v' [] ∧ Below W.heap.size W w') := HNT.out
        clear HNT
        go_wp2_with fail
        refine (HN1.out w6 HB6.out).mono ?_
        rintro e w7 ⟨gv, rfl, hg7, hb7⟩
        have HB7 := hid_m (HST.out _ _ HB6.out hb7)
        have HG7 := hid_m hg7
        obtain ⟨gad, gcap, rfl⟩ := opsShape hg7
        clear hb7 hg7
        go_wp2_with fail
        refine (HE1.out w7 HB7.out).mono ?_
        rintro e w8 ⟨rfl, hb8⟩
        have HB8 := hid_m (HST.out _ _ HB7.out hb8)
        have HS8 := hid_m (HSO.out w8 _ _ [] (by simp) (HG7.out.below hb8 (Nat.le_refl _)) (isOps_nil w8))
        clear hb8
        go_wp2_with fail
        refine HS8.out.mono ?_
        rintro e w9 ⟨rfl, hb9⟩
        have HB9 := hid_m (HST.out _ _ HB8.out hb9)
        clear hb9
        go_wp2_with fail
        go_ret
        exact ⟨rfl, HB9.out⟩
      · obtain ⟨kk, rfl⟩ : ∃ q : Nat, k = (q : Int) := ⟨k.toNat, by omega⟩
        rw [if_neg (by omega), if_neg (by omega), Int.toNat_natCast] at HNT
        obtain ⟨g, uad, ucap, rfl, hcell, hIo, hmem⟩ := HAT.out w6 (HBE.out.trans (HW6.out.mono HBE.out.size)) kk (by omega)
        have hx8 := (HLS.out _ hmem).2
        obtain ⟨x, hx⟩ : ∃ x, ls.getD kk [] = x := ⟨_, rfl⟩
        rw [hx] at hcell hIo hx8 HNT
        have HN1 : Hid (∀ W, Below w.heap.size w W → Calls Tryd.prog 10 #[.slice ad n cap, .int .i64 (kk : Int)] W fun e w' => ∃ v', e = .returned (.tuple #[v', .nilIface]) ∧ IsOps w' v' x ∧ Below W.heap.size W w') := HNT.out
        have HIo := hid_m hIo
        have HX8 := hid_m hx8
        have HSX : Hid (∀ W v, IsOps W v x → Below w6.heap.size w6 W → Calls Tryd.prog 11 #[v, .slice uad x.length ucap] W fun e w' => e = .returned (.bool true) ∧ Below W.heap.size W w') := fun W v hv hW => HSO.out W v _ x HX8.out hv (HIo.out.below hW (Nat.le_refl _))
        obtain ⟨xn, hxn⟩ : ∃ n, x.length = n := ⟨_, rfl⟩
        rw [hxn] at hcell HSX
        have hkn : (kk : Int) < (ls.length : Int) := by omega
        clear hIo hmem hx hxn hx8 HNT
        go_wp2_with fail
        refine (HN1.out w6 HB6.out).mono ?_
        rintro e w7 ⟨gv, rfl, hg7, hb7⟩
        have HB7 := hid_m (HST.out _ _ HB6.out hb7)
        have HV7 := hid_m hb7
        have HG7 := hid_m hg7
        obtain ⟨gad, gcap, rfl⟩ := opsShape hg7
        clear hb7 hg7 hcell
        go_wp2_with fail
        refine (HE0.out w7 HB7.out).mono ?_
        rintro e w8 ⟨rfl, hb8⟩
        have HB8 := hid_m (HST.out _ _ HB7.out hb8)
        have HS8 := hid_m (HSX.out w8 _ (HG7.out.below hb8 (Nat.le_refl _)) (HV7.out.trans (hb8.mono HV7.out.size)))
        clear hb8
        go_wp2_with fail
        refine HS8.out.mono ?_
        rintro e w9 ⟨rfl, hb9⟩
        have HB9 := hid_m (HST.out _ _ HB8.out hb9)
        clear hb9
        go_wp2_with fail
        go_ret
        exact ⟨rfl, HB9.out⟩
theorem mtell_any (hC : MCountC) (hG : MGoodC) (hN : MNthC) (hRO : RefOrdC) (l : List Op3) (ad : Option Addr) (cap : Nat) (k : Int) (w : World) (hI : IsOps w (.slice ad l.length cap) l) (hcap : l.length ≤ cap) (hg : EtAt w) :
    Calls Tryd.prog 3 #[.slice ad l.length cap, .int .i64 k] w fun e w' => e = .returned (.bool true) ∧ Below w.heap.size w w' := by
  by_cases hx : mixE l = 0
  · exact mtell_ok hC hG hN hRO l ad cap k w hI hcap hg hx
  · exact mtell_bad hC hG hN l ad cap k w hI hcap hg hx
end Go.Proofs.YtmjjiehnjghndaaDoor

namespace Go.Proofs.YtmjjiehnjghndaaDoor
open Go.RowKit

set_option maxHeartbeats 2000000 in
theorem ddeals_ok (l : List Op3) (v : Value) (w : World) (h : IsOps w v l) (hc : (chk l).2 = 0) :
    Calls Tryd.prog 36 #[v] w fun e w' => ∃ u v', e = .returned (.tuple #[u, v', .nilIface]) ∧ IsOps w' u (doneL l) ∧ w'.ownsRow w.heap.size 3 1 v' (dealsL (doneL l)).length ((dealsL (doneL l)).map (Value.int .i64)) ∧ Below w.heap.size w w' := by
  go_enter Tryd.func36, Tryd.ntmps36
  go_wp2_with fail
  refine (done_ok l _ _ h hc).mono ?_
  rintro e w1 ⟨u, rfl, hI1, hb1⟩
  go_wp2_with fail
  refine (deals_own (doneL l) u _ hI1 (chk_done hc)).mono ?_
  rintro e w2 ⟨v', rfl, hown2, hb2⟩
  go_wp2_with fail
  go_ret3
  exact ⟨_, _, rfl, hI1.below hb2 (Nat.le_refl _), hown2.mono hb1.size, hb1.trans (hb2.mono hb1.size)⟩
end Go.Proofs.YtmjjiehnjghndaaDoor
