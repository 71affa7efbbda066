/-
  PROVED HERE: package stamp keeps what it is asked (StampC): of any ops, with leave or without, Run tells what chapter 10, as a function on lists, tells. Old memory stays as it was.
  Conditions: none.
-/
import Derived.Test.YtjaeaanpbdmfgaeDoorBookEnd
import Derived.Test.YtjaeaanpbdmfgaeDoorStampAsk
import Derived.Deep.RegionHeld3
namespace Go.Proofs.YtjaeaanpbdmfgaeDoor
open Go.RowKit

theorem newBook_run (leave : Bool) (w0 w : World) (hb : Below w0.heap.size w0 w) :
    Calls Tryd.prog 51 #[.bool leave] w fun e w' => ∃ R A, e = .returned (.pointer (some ⟨R, 0, none⟩)) ∧ BookAt w0 w' R A leave stm0 (.slice none 0 0) := by
  have hmm := @run_makeMap Tryd.prog
  have HM := hid_b (book_made w0 w hb leave)
  rw [cells17_lit] at HM
  clear hb
  go_enter Tryd.func51, Tryd.ntmps51
  go_wp2_with fail
  go_ret
  exact ⟨_, _, rfl, HM.out⟩
theorem stampP_snoc (leave : Bool) {l : List Op3} {k : Nat} (hk : k < l.length) : stampR leave (l.take (k + 1)) = stepS leave (stampR leave (l.take k)) (opAt l k) := by
  unfold stampR
  rw [List.take_succ_eq_append_getElem hk, List.foldl_append]
  have : l[k] = opAt l k := by simp [opAt, List.getD, List.getElem?_eq_getElem hk]
  rw [this]
  rfl
theorem nodup_six : ∀ {l : List Int}, l.Pairwise (· ≠ ·) → (∀ v ∈ l, 1 ≤ v ∧ v ≤ 6) → l.length ≤ 6 := by
  intro l hp hr
  have h := lits_len (l.map (Lit.int .i64)) [.int .i64 1, .int .i64 2, .int .i64 3, .int .i64 4, .int .i64 5, .int .i64 6] (List.pairwise_map.2 (hp.imp fun hne e => hne (by injection e))) fun k hk => by
    obtain ⟨x, hx, rfl⟩ := List.mem_map.1 hk
    obtain ⟨h1, h6⟩ := hr x hx
    rcases six h1 h6 with rfl | rfl | rfl | rfl | rfl | rfl <;> simp
  simpa using h
set_option maxHeartbeats 16000000 in
set_option maxRecDepth 100000 in
theorem stampC : StampC := by
  intro l v leave w hI
  by_cases hc : (chk l).2 = 0
  · have HCK := hid_b (check_ok l v w hI hc)
    have HU : Hid (stampU leave l = (((stampR leave l).told, (stampR leave l).vict), 0)) := stampU_ok hc
    obtain ⟨hl40, hop, hcalm⟩ := (chk_iff l).1 hc
    have HOP : Hid (∀ o ∈ l, isOpB o = true) := hop
    have HSK : Hid (∀ k, k ≤ l.length → (stampR leave (l.take k)).told.length ≤ 40 ∧ (stampR leave (l.take k)).vict.length ≤ 6 ∧ FitS (stampR leave (l.take k))) := fun k hk => by
      have h1 := (stamp_ok leave l hop hcalm k hk).long
      have h2 := fit_all leave l hop k hk
      rw [List.length_take] at h1
      exact ⟨by omega, nodup_six h2.2.1 h2.2.2, h2⟩
    obtain ⟨ad, b, off, cap, rfl, ha, -, hbB, hops⟩ := hI
    have HE : Hid (∀ W, Below w.heap.size w W → ∀ k, k < l.length → ad = some ⟨b, off, none⟩ ∧ b < w.heap.size ∧ W.cell? ⟨b, off + k * 3, none⟩ = some (.int .i64 (opAt l k).1) ∧ W.cell? ⟨b, off + k * 3 + 1, none⟩ = some (.int .i64 (opAt l k).2.1) ∧ W.cell? ⟨b, off + k * 3 + 2, none⟩ = some (.int .i64 (opAt l k).2.2)) := fun W hW k hk => by
      refine ⟨ha (by omega), ?_, (hops.below hW hbB) k hk⟩
      rcases hbB with h | h
      · exact h
      · subst h; simp at hk
    clear hc hop hcalm ha hbB hops
    go_enter Tryd.func25, Tryd.ntmps25
    go_wp2_with fail
    refine HCK.out.mono ?_
    rintro e w1 ⟨rfl, hb1⟩
    have HB1 := hid_b hb1
    clear hb1
    go_wp2_with fail
    refine (newBook_run leave w w1 HB1.out).mono ?_
    rintro e w2 ⟨R, A, rfl, ho2⟩
    have HO2 := hid_b ho2
    clear ho2
    go_wp2_with fail
    go_loopw [24] (fun v24 wr => ∃ (k : Nat) (tv : Value), k ≤ l.length ∧ v24 = .int .i64 k ∧ BookAt w wr R A leave (stampR leave (l.take k)) tv) (fun v24 _ => l.length - (intOf v24).toNat)
    case atStart => exact ⟨0, _, Nat.zero_le _, rfl, HO2.out⟩
    case round =>
      obtain ⟨k, tk, hk, rfl, hok⟩ := hrel
      have hsk := HSK.out k hk
      obtain ⟨rk, hrk⟩ : ∃ rk, stampR leave (l.take k) = rk := ⟨_, rfl⟩
      rw [hrk] at hok hsk
      have HOK := hid_b hok
      have HRK := hid_b hrk
      have HGK := hid_b hsk
      clear hok hsk hrk HO2
      by_cases hlt : k < l.length
      · have hlt' : (k : Int) < (l.length : Int) := by omega
        obtain ⟨rfl, hbw, e0, e1, e2⟩ := HE.out wr HOK.out.old k hlt
        obtain ⟨⟨t, a, i⟩, ho⟩ : ∃ o : Op3, opAt l k = o := ⟨_, rfl⟩
        have hiso : isOpB (t, a, i) = true := by rw [← ho]; exact HOP.out _ (opAt_mem hlt)
        have HNX : Hid (stampR leave (l.take (k + 1)) = stepS leave rk (t, a, i)) := by show _ = _; rw [stampP_snoc leave hlt, HRK.out, ho]
        rw [ho] at e0 e1 e2
        simp only at e0 e1 e2
        have hbR : b < wr.heap.size := Nat.lt_of_lt_of_le hbw HOK.out.old.size
        have HCO : Hid (∀ W, Below wr.heap.size wr W → Calls Tryd.prog 52 #[.pointer (some ⟨R, 0, none⟩), .agg #[.int .i64 t, .int .i64 a, .int .i64 i]] W fun e w' => e = .returned (.tuple #[]) ∧ ∃ tv', BookAt w w' R A leave (stepS leave rk (t, a, i)) tv') := fun W hW =>
          come_book (t, a, i) (HOK.out.later hW) HGK.out.2.2 hiso (by have := HGK.out.1; omega)
        clear ho hiso
        go_wp2_with fail
        refine (HCO.out _ ((Below.refl _ wr).alloc (Nat.le_refl _) _)).mono ?_
        rintro e w3 ⟨rfl, c3, ho3⟩
        have HO3 := hid_b ho3
        clear ho3 e0 e1 e2
        go_wp2_with fail
        go_roundw
        case rel => exact ⟨k + 1, c3, by omega, by go_num, by rw [HNX.out]; exact HO3.out⟩
        case measure => simp [intOf]; omega
      · have hlt' : ¬ (k : Int) < (l.length : Int) := by omega
        obtain rfl : k = l.length := by omega
        have HEND : Hid (stampR leave l = rk) := by show _ = _; rw [← HRK.out, List.take_length]
        have k2 := HOK.out.c15
        obtain ⟨ad5, c5, e5, -⟩ := own_slice3 HOK.out.told
        rw [e5] at k2
        have hRr := HOK.out.lt
        have HIN : Hid (Calls Tryd.prog 53 #[.pointer (some ⟨R, 0, none⟩)] wr.drew fun e w' => ∃ ad n q, e = .returned (.slice ad n q) ∧ w'.cell? ⟨R, 15, none⟩ = some (.slice ad5 rk.told.length c5) ∧ IsInts w' (.slice ad n q) rk.vict ∧ IsOps w' (.slice ad5 rk.told.length c5) rk.told ∧ Below w.heap.size w w') := by
          have h1 := HOK.out.later (Below.refl _ wr).drew
          refine (inOrder_book h1 HGK.out.2.2 HGK.out.2.1).mono ?_
          rintro e w' ⟨ad, n, q, rfl, hi, hb⟩
          have h2 := h1.later hb
          refine ⟨ad, n, q, rfl, ?_, hi, ?_, h2.old⟩
          · rw [← e5]; exact h2.c15
          · rw [← e5]; exact isOps_row h2.told rfl
        have HK2 : Hid (wr.drew.cell? ⟨R, 15, none⟩ = some (.slice ad5 rk.told.length c5)) := k2
        clear e5
        go_wp2_with fail
        go_region_held3 (fun w' => w'.cell? ⟨R, 15, none⟩ = some (.slice ad5 rk.told.length c5)) (first | exact g2 | exact HK2.out) (first | (go_at_call 53; refine HIN.out.mono ?_; rintro e w3 ⟨ad3, n3, q3, rfl, g2, hi3, hp3, hb3⟩))
        all_goals
          go_wp2_with fail
          go_ret3
          rw [HU.out, HEND.out]
          exact ⟨_, _, rfl, hp3, hi3, hb3⟩
  · have HCK := hid_b (check_bad l v w hI hc)
    have HU : Hid (stampU leave l = (([], []), (chk l).2)) := stampU_bad hc
    have HER := hid_b (errV_ne hc)
    obtain ⟨ad, b, off, cap, rfl, -⟩ := hI
    clear hc
    go_enter Tryd.func25, Tryd.ntmps25
    go_wp2_with fail
    refine HCK.out.mono ?_
    rintro e w1 ⟨rfl, hb1⟩
    go_wp2_with fail
    go_ret3
    rw [HU.out]
    exact ⟨_, _, by rw [HER.out]; rfl, isOps_nil _, isInts_nil _, hb1⟩
end Go.Proofs.YtjaeaanpbdmfgaeDoor
