/-
  PROVED HERE: lanelaw2.StampTells answers true, of any ops, with and without leave, over whatever keeps StampC.
  Conditions: StampC; the variable errors.errorType holds the handle of the type error.
-/
import Derived.Test.YtjaeaanpbdmfgaeDoorStampAsk
import Derived.Test.YtjaeaanpbdmfgaeDoorRefStamp
import Derived.Test.YtjaeaanpbdmfgaeDoorRefHist
import Derived.Test.YtjaeaanpbdmfgaeDoorSame
import Derived.Test.YtjaeaanpbdmfgaeDoorSameInts
import Derived.Test.YtjaeaanpbdmfgaeDoorTold
namespace Go.Proofs.YtjaeaanpbdmfgaeDoor
open Go.RowKit

theorem spErr_any (n : Int) (w : World) (hg : EtAt w) : Calls Tryd.prog 10 #[errV n, .int .i64 n] w fun e w' => e = .returned (.bool true) ∧ Below w.heap.size w w' := by
  by_cases h : n = 0
  · subst h
    exact (error_nil 0 w).mono fun _ _ ⟨he, hw⟩ => ⟨he, by rw [hw]; exact Below.refl _ _⟩
  · rw [errV_ne h]
    exact (error_hit n n w hg).mono fun _ _ ⟨he, hb⟩ => ⟨by rw [he]; simp, hb⟩
set_option maxHeartbeats 8000000 in
set_option maxRecDepth 100000 in
theorem sptell_any (hS : StampC) (l : List Op3) (v : Value) (leave : Bool) (w : World) (hI : IsOps w v l) (hg : EtAt w) :
    Calls Tryd.prog 5 #[v, .bool leave] w fun e w' => e = .returned (.bool true) ∧ Below w.heap.size w w' := by
  have HIE : Hid (∀ W, Below w.heap.size w W → IsOps W v l ∧ EtAt W) := fun W hW => ⟨hI.below hW (Nat.le_refl _), hg.below hW hg.lt⟩
  have hul := stampU_len leave l
  obtain ⟨⟨⟨tl, vl⟩, n⟩, hu⟩ : ∃ u, stampU leave l = u := ⟨_, rfl⟩
  rw [hu] at hul
  have HRUN : Hid (∀ W, Below w.heap.size w W → Calls Tryd.prog 25 #[v, .bool leave] W fun e w' => ∃ v1 v2, e = .returned (.tuple #[v1, v2, errV n]) ∧ IsOps w' v1 tl ∧ IsInts w' v2 vl ∧ Below W.heap.size W w') := fun W hW => by
    have h1 := hS l v leave W (HIE.out W hW).1
    rw [hu] at h1
    exact h1
  have HRR : Hid (Calls Tryd.prog 23 #[v] w fun e w' => e = .returned (.int .i64 (chk l).2) ∧ Below w.heap.size w w') := refRight_any l _ w hI
  have HER : Hid (∀ W, Below w.heap.size w W → Calls Tryd.prog 10 #[errV n, .int .i64 n] W fun e w' => e = .returned (.bool true) ∧ Below W.heap.size W w') := fun W hW => spErr_any n W (HIE.out W hW).2
  have HST : Hid (∀ W W', Below w.heap.size w W → Below W.heap.size W W' → Below w.heap.size w W') := fun W W' h1 h2 => h1.trans (h2.mono h1.size)
  obtain ⟨ad, b0, off, cap, hv, -⟩ := hI
  subst hv
  have HU := hid_of3 hu
  have HUL := hid_of3 hul
  obtain ⟨ce, hce⟩ : ∃ ce, (chk l).2 = ce := ⟨_, rfl⟩
  rw [hce] at HRR
  have HCE := hid_of3 hce
  clear hg hS hu hul hce
  by_cases hc : ce = 0
  · have he : (((stampR leave l).told, (stampR leave l).vict), 0) = ((tl, vl), n) := by rw [← HU.out, stampU_ok (HCE.out.trans hc)]
    simp only [Prod.mk.injEq] at he
    obtain ⟨⟨htl, hvl⟩, rfl⟩ := he
    have HOK : Hid ((chk l).2 = 0) := HCE.out.trans hc
    have HREF : Hid (∀ W, Below w.heap.size w W → Calls Tryd.prog 24 #[.slice ad l.length cap, .bool leave] W fun e w' => ∃ v1 v2, e = .returned (.tuple #[v1, v2]) ∧ IsOps w' v1 tl ∧ IsInts w' v2 vl ∧ Below W.heap.size W w') := fun W hW => by
      have h1 := refStamp_any l _ leave W (HIE.out W hW).1 HOK.out
      rw [htl, hvl] at h1
      exact h1
    have hev : errV 0 = .nilIface := rfl
    rw [hev] at HRUN HER
    subst hc
    clear hev HU htl hvl
    go_enter Tryd.func5, Tryd.ntmps5
    go_wp2_with fail
    refine HRR.out.mono ?_
    rintro e w1 ⟨rfl, hb1⟩
    go_wp2_with fail
    refine (HREF.out _ hb1).mono ?_
    rintro e w2 ⟨u1, u2, rfl, hj1, hj2, hq2⟩
    have hb2 := HST.out _ _ hb1 hq2
    obtain ⟨p1, q1, s1, rfl⟩ : ∃ ad n c, u1 = .slice ad n c := by obtain ⟨ad, _, _, cap, hv, _⟩ := hj1; exact ⟨ad, _, cap, hv⟩
    obtain ⟨p2, q2, s2, rfl⟩ : ∃ ad n c, u2 = .slice ad n c := by obtain ⟨ad, _, _, cap, hv, _⟩ := hj2; exact ⟨ad, _, cap, hv⟩
    have HJ1 := hid_of3 hj1
    have HJ2 := hid_of3 hj2
    clear hj1 hj2 hq2
    go_wp2_with fail
    refine (HRUN.out _ hb2).mono ?_
    rintro e w3 ⟨v1, v2, rfl, hi1, hi2, hq⟩
    have hbz := HST.out _ _ hb2 hq
    obtain ⟨x1, y1, z1, rfl⟩ : ∃ ad n c, v1 = .slice ad n c := by obtain ⟨ad, _, _, cap, hv, _⟩ := hi1; exact ⟨ad, _, cap, hv⟩
    obtain ⟨x2, y2, z2, rfl⟩ : ∃ ad n c, v2 = .slice ad n c := by obtain ⟨ad, _, _, cap, hv, _⟩ := hi2; exact ⟨ad, _, cap, hv⟩
    have HI1 := hid_of3 hi1
    have HI2 := hid_of3 hi2
    clear hi1 hi2
    go_wp2_with fail
    refine (HER.out _ hbz).mono ?_
    rintro e wE ⟨rfl, hqE⟩
    have hbE := HST.out _ _ hbz hqE
    go_wp2_with fail
    refine (same_ops tl _ _ _ (HI1.out.below hqE (Nat.le_refl _)) ((HJ1.out.below hq (Nat.le_refl _)).below hqE (Nat.le_refl _)) (by have := HUL.out.1; omega)).mono ?_
    rintro e wF ⟨rfl, hqF⟩
    have hbF := HST.out _ _ hbE hqF
    go_wp2_with fail
    refine (same_ints vl _ _ _ ((HI2.out.below hqE (Nat.le_refl _)).below hqF (Nat.le_refl _)) (((HJ2.out.below hq (Nat.le_refl _)).below hqE (Nat.le_refl _)).below hqF (Nat.le_refl _)) (by have := HUL.out.2; omega)).mono ?_
    rintro e wG ⟨rfl, hqG⟩
    have hbG := HST.out _ _ hbF hqG
    go_wp2_with fail
    go_ret
    exact ⟨rfl, hbG⟩
  · have he : (([], []), ce) = ((tl, vl), n) := by rw [← HU.out, stampU_bad (by rw [HCE.out]; exact hc), HCE.out]
    simp only [Prod.mk.injEq] at he
    obtain ⟨⟨rfl, rfl⟩, rfl⟩ := he
    have hev : errV ce = .iface 66 (.int .i64 ce) := errV_ne hc
    rw [hev] at HRUN HER
    have hcb : (ce == 0) = false := by simpa using hc
    clear hev HU
    go_enter Tryd.func5, Tryd.ntmps5
    go_wp2_with fail
    refine HRR.out.mono ?_
    rintro e w1 ⟨rfl, hb1⟩
    go_wp2_with fail
    refine (HRUN.out _ hb1).mono ?_
    rintro e w2 ⟨v1, v2, rfl, hi1, hi2, hq⟩
    have hbz := HST.out _ _ hb1 hq
    obtain ⟨x1, y1, z1, rfl⟩ : ∃ ad n c, v1 = .slice ad n c := by obtain ⟨ad, _, _, cap, hv, _⟩ := hi1; exact ⟨ad, _, cap, hv⟩
    obtain ⟨x2, y2, z2, rfl⟩ : ∃ ad n c, v2 = .slice ad n c := by obtain ⟨ad, _, _, cap, hv, _⟩ := hi2; exact ⟨ad, _, cap, hv⟩
    have HI1 := hid_of3 hi1
    have HI2 := hid_of3 hi2
    clear hi1 hi2
    go_wp2_with fail
    refine (HER.out _ hbz).mono ?_
    rintro e wE ⟨rfl, hqE⟩
    have hbE := HST.out _ _ hbz hqE
    go_wp2_with fail
    refine (same_ops [] _ _ _ (HI1.out.below hqE (Nat.le_refl _)) (isOps_nil _) (by simp)).mono ?_
    rintro e wF ⟨rfl, hqF⟩
    have hbF := HST.out _ _ hbE hqF
    go_wp2_with fail
    refine (same_ints [] _ _ _ ((HI2.out.below hqE (Nat.le_refl _)).below hqF (Nat.le_refl _)) (isInts_nil _) (by simp)).mono ?_
    rintro e wG ⟨rfl, hqG⟩
    have hbG := HST.out _ _ hbF hqG
    go_wp2_with fail
    go_ret
    exact ⟨rfl, hbG⟩
end Go.Proofs.YtjaeaanpbdmfgaeDoor
