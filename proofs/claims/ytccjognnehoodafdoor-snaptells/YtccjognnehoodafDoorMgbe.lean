/-
  PROVED HERE: lanesame.Edges says yes of two slices that hold the same list of edges; nothing turns but the count of draws.
  Conditions: none.
  PROVED HERE: lanelaw2.SnapTells answers true, of any ops, over whatever keeps RunsC and TogC of chapter 12, RefC and RefOutC.
  Conditions: RunsC, TogC, RefC, RefOutC; the variable errors.errorType holds the handle of the type error.
-/
import Derived.Test.YtccjognnehoodafDoorMgal
import Derived.Deep.QuietTactic
import Derived.BigQuiet
import Derived.WalkSmall
import Derived.Test.YtccjognnehoodafDoorMgay
import Derived.Test.YtccjognnehoodafDoorMgbc
import Derived.Test.YtccjognnehoodafDoorMgaz
import Derived.Test.YtccjognnehoodafDoorMgbd
import Derived.Deep.RegionHeld3
import Derived.Deep.CutRange
namespace Go.Proofs.YtccjognnehoodafDoor
open Go.RowKit

set_option maxHeartbeats 4000000 in
theorem same_edges (l : List Edge2) (v u : Value) (w : World) (hv : IsEdges w v l) (hu : IsEdges w u l) (hlen : l.length ≤ 140737488351) :
    Calls Tryd.prog 13 #[v, u] w fun e w' => e = .returned (.bool true) ∧ Below w.heap.size w w' := by
  obtain ⟨ad, b, off, cap, rfl, ha, _, hbB, hops⟩ := hv
  obtain ⟨ad2, b2, off2, cap2, rfl, ha2, _, hbB2, hops2⟩ := hu
  go_enter Tryd.func13, Tryd.ntmps13
  go_wp2
  go_loopw [5] (fun v5 wr => ∃ k : Nat, k ≤ l.length ∧ v5 = .int .i64 k ∧ Below w.heap.size w wr) (fun v5 _ => l.length - (intOf v5).toNat)
  case atStart => exact ⟨0, Nat.zero_le _, rfl, Below.refl _ _⟩
  case round =>
    obtain ⟨k, hk, rfl, hbel⟩ := hrel
    by_cases hlt : k < l.length
    · obtain rfl := ha (by omega)
      obtain rfl := ha2 (by omega)
      obtain ⟨c0, c1⟩ := (hops.below hbel hbB) k hlt
      obtain ⟨d0, d1⟩ := (hops2.below hbel hbB2) k hlt
      obtain ⟨⟨t, a⟩, ho⟩ : ∃ o : Edge2, l.getD k (0, 0) = o := ⟨_, rfl⟩
      rw [ho] at c0 c1 d0 d1
      simp only at c0 c1 d0 d1
      clear ho hops hops2 ha ha2 hbB hbB2
      go_wp2
      go_quiet (fail)
      go_wp2
      go_roundw
      case rel => exact ⟨k + 1, by omega, by go_num, below_drewN hbel _⟩
      case measure => simp [intOf]; omega
    · go_wp2
      go_ret
      exact ⟨rfl, hbel⟩
end Go.Proofs.YtccjognnehoodafDoor

namespace Go.Proofs.YtccjognnehoodafDoor
open Go.RowKit

/-- What Together is asked to keep. -/
def TogC (F : FuncId) : Prop := ∀ (l : List Op3) (v : Value) (w : World), IsOps w v l → Calls Tryd.prog F #[v] w fun e w' => ∃ v', e = .returned (.tuple #[v', errV (chk l).2]) ∧ IsEdges w' v' (if (chk l).2 ≠ 0 then [] else togL (runK 2 okS l l.length).of (runK 2 okS l l.length).done) ∧ Below w.heap.size w w'
set_option maxHeartbeats 32000000 in
set_option maxRecDepth 100000 in
theorem sntell_any (hT : TogC 11) (hV : RunsC 14 2 okS false) (hR : RefC 2 okS) (hO : RefOutC false) (l : List Op3) (v : Value) (w : World) (hI : IsOps w v l) (hg : EtAt w) :
    Calls Tryd.prog 4 #[v] w fun e w' => e = .returned (.bool true) ∧ Below w.heap.size w w' := by
  have HIE : Hid (∀ W, Below w.heap.size w W → IsOps W v l ∧ EtAt W) := fun W hW => ⟨hI.below hW (Nat.le_refl _), hg.below hW hg.lt⟩
  have HRR : Hid (Calls Tryd.prog 7 #[v] w fun e w' => e = .returned (.int .i64 (chk l).2) ∧ Below w.heap.size w w') := refRight_any l _ w hI
  have HTO : Hid (∀ W, Below w.heap.size w W → Calls Tryd.prog 11 #[v] W fun e w' => ∃ v', e = .returned (.tuple #[v', errV (chk l).2]) ∧ IsEdges w' v' (if (chk l).2 ≠ 0 then [] else togL (runK 2 okS l l.length).of (runK 2 okS l l.length).done) ∧ Below W.heap.size W w') := fun W hW => hT l v W (HIE.out W hW).1
  have HER : Hid (∀ W, Below w.heap.size w W → Calls Tryd.prog 12 #[errV (chk l).2, .int .i64 (chk l).2] W fun e w' => e = .returned (.bool true) ∧ Below W.heap.size W w') := fun W hW => kErr_any _ W (HIE.out W hW).2
  have hue : (outU 2 okS false l).2 = (chk l).2 := by
    by_cases h : (chk l).2 = 0
    · rw [outU_ok h]; exact h.symm
    · rw [outU_bad h]
  have HRUN : Hid (∀ W, Below w.heap.size w W → Calls Tryd.prog 14 #[v] W fun e w' => ∃ a1 a2 a3, e = .returned (.tuple #[.agg #[a1, a2, a3], errV (chk l).2]) ∧ IsInts w' a1 (outU 2 okS false l).1.1 ∧ IsOps w' a2 (outU 2 okS false l).1.2.1 ∧ IsInts w' a3 (outU 2 okS false l).1.2.2 ∧ Room a1 ∧ Below W.heap.size W w') := fun W hW => by have h5 := hV l v W (HIE.out W hW).1; rw [hue] at h5; exact h5
  have HTE : Hid (∀ W a1 a2 a3, Below w.heap.size w W → IsInts W a1 (outU 2 okS false l).1.1 → IsOps W a2 (outU 2 okS false l).1.2.1 → IsInts W a3 (outU 2 okS false l).1.2.2 → Calls Tryd.prog 6 #[v, .int .i64 2, .agg #[a1, a2, a3], errV (chk l).2] W fun e w' => e = .returned (.bool true) ∧ Below W.heap.size W w') := fun W a1 a2 a3 hW h1 h2 h3 => by
    have h5 := tells_any (by decide) hR hO l v a1 a2 a3 W (HIE.out W hW).1 (HIE.out W hW).2 h1 h2 h3
    rw [hue] at h5
    exact h5
  obtain ⟨u, hu⟩ : ∃ u, outU 2 okS false l = u := ⟨_, rfl⟩
  rw [hu] at HRUN HTE
  obtain ⟨⟨ds9, se9, la9⟩, n9⟩ := u
  simp only at HRUN HTE
  have HST : Hid (∀ W W', Below w.heap.size w W → Below W.heap.size W W' → Below w.heap.size w W') := fun W W' g1 g2 => g1.trans (g2.mono g1.size)
  have HREF := hid_k hR
  obtain ⟨ad0, b0, off0, cap0, hv0, -⟩ := hI
  subst hv0
  obtain ⟨ce, hce⟩ : ∃ ce, (chk l).2 = ce := ⟨_, rfl⟩
  have HCE := hid_k hce
  rw [hce] at HRR HTO HER HRUN HTE
  obtain ⟨er, her⟩ : ∃ e, errV ce = e := ⟨_, rfl⟩
  rw [her] at HTO HER HRUN HTE
  clear hT hV hR hO hg hue hu hce her
  go_enter Tryd.func4, Tryd.ntmps4
  go_wp2_with fail
  refine HRR.out.mono ?_
  rintro e w1 ⟨rfl, hb1⟩
  have HB1 := hid_k hb1
  clear hb1 HRR
  go_upto_if 16 with (fail)
  go_cut [4] from 13 to 91 (fun v4 W1 => IsEdges W1 v4 (if ce ≠ 0 then [] else togL (runK 2 okS l l.length).of (runK 2 okS l l.length).done) ∧ (∃ x y z, v4 = .slice x y z) ∧ Below w.heap.size w W1)
  case first =>
    by_cases hc : ce = 0
    · have hcb : (ce == 0) = true := by simpa using hc
      have HOK : Hid ((chk l).2 = 0) := HCE.out.trans hc
      have HRN := hid_k (HREF.out l _ w1 (HIE.out _ HB1.out).1 HOK.out)
      have hko := run_kOk 2 okS HOK.out l.length (Nat.le_refl _)
      have HD6 : Hid ((runK 2 okS l l.length).done.length ≤ 6) := kst_six 2 okS HOK.out
      have HRG : Hid (∀ t ∈ (runK 2 okS l l.length).done, 1 ≤ t ∧ t ≤ 6) := fun t ht => ⟨(hko.comm t ht).2.1, (hko.comm t ht).2.2.1⟩
      obtain ⟨ds, hds⟩ : ∃ d, (runK 2 okS l l.length).done = d := ⟨_, rfl⟩
      obtain ⟨of, hof⟩ : ∃ d, (runK 2 okS l l.length).of = d := ⟨_, rfl⟩
      have HTG : Hid ((if ce ≠ 0 then [] else togL (runK 2 okS l l.length).of (runK 2 okS l l.length).done) = togL of ds) := by show _ = _; rw [if_neg (by simpa using hc), hds, hof]
      rw [hds, hof] at HRN
      rw [hds] at HRG HD6
      clear hds hof hko hc
      go_wp2_with fail
      refine HRN.out.mono ?_
      rintro e w2 ⟨v2, rfl, hid, hb2⟩
      have HB2 := hid_k (HST.out _ _ HB1.out hb2)
      obtain ⟨ad, b, off, cap, rfl, ha, hbB, hcx⟩ := hid
      have hl : ds.length ≤ 6 := HD6.out
      have HC : Hid (∀ i, i < ds.length → ad = some ⟨b, off, none⟩ ∧ b < w2.heap.size ∧ ∃ sv wv, (∃ x y z, sv = .slice x y z) ∧ (∃ x y z, wv = .slice x y z) ∧ ∀ W, Below w2.heap.size w2 W → DealAt W b off i (ds.getD i 0) (of (ds.getD i 0)) sv wv) := fun i hi => by
        have hb : b < w2.heap.size := by
          rcases hbB with h | h
          · exact h
          · subst h; simp at hi
        obtain ⟨sv, wv, hd, c⟩ := hcx i hi
        refine ⟨ha (by omega), hb, sv, wv, by obtain ⟨a, _, _, c, h, _⟩ := hd.seen; exact ⟨a, _, c, h⟩, by obtain ⟨a, _, _, c, h, _⟩ := hd.wrote; exact ⟨a, _, c, h⟩, fun W hW => ?_⟩
        unfold DealAt
        rw [hW.cell (p := ⟨b, off + i * 5, none⟩) hb, hW.cell (p := ⟨b, off + i * 5 + 1, none⟩) hb, hW.cell (p := ⟨b, off + i * 5 + 2, none⟩) hb, hW.cell (p := ⟨b, off + i * 5 + 3, none⟩) hb, hW.cell (p := ⟨b, off + i * 5 + 4, none⟩) hb]
        exact c
      clear hb2 ha hbB hcx HRN
      go_wp2_with fail
      go_loopw [4, 6, 7, 8] (fun v4 v6 _ _ wr => ∃ i : Nat, i ≤ ds.length ∧ v6 = .int .i64 i ∧ IsEdges wr v4 ((ds.take i).foldl (onceX of ds) []) ∧ Roomy v4 ∧ Below w2.heap.size w2 wr) (fun _ v6 _ _ _ => ds.length - (intOf v6).toNat)
      case atStart => exact ⟨0, Nat.zero_le _, rfl, isEdges_nil _, ⟨none, 0, 0, rfl, Nat.le_refl _⟩, Below.refl _ _⟩
      case round =>
        obtain ⟨i, hi, rfl, hed, hro, hbel⟩ := hrel
        obtain ⟨E, hE⟩ : ∃ E, (ds.take i).foldl (onceX of ds) [] = E := ⟨_, rfl⟩
        have HE := hid_k hE
        have hEl : E.length ≤ i * 6 := by
          rw [← hE]
          clear hed hE HE
          revert hi
          induction i with
          | zero => intro _; simp
          | succ i ih =>
            intro hi
            have h1 := ih (by omega)
            rw [takeI_fold _ _ (by omega)]
            have h2 := onceE_len (of := of) ds ((ds.take i).foldl (onceX of ds) []) (ds.getD i 0)
            show (ds.foldl (onceY of (ds.getD i 0)) _).length ≤ _
            omega
        rw [hE] at hed
        have HED := hid_k (And.intro hed (And.intro hro hbel))
        clear hed hro hbel hE
        by_cases hlt : i < ds.length
        · have hlt' : (i : Int) < (ds.length : Int) := by omega
          have hi0 : (0 : Int) ≤ (i : Int) := by omega
          have hin : ¬ (i : Int) < 0 := by omega
          have HNX : Hid ((ds.take (i + 1)).foldl (onceX of ds) [] = onceX of ds E (ds.getD i 0)) := by show _ = _; rw [takeI_fold _ _ hlt, HE.out]
          obtain ⟨hadr, hbw, svi, wvi, ⟨sx, sy, sz, hsvi⟩, ⟨wx, wy, wz, hwvi⟩, hci⟩ := HC.out i hlt
          subst hadr
          subst hsvi
          subst hwvi
          have HCI := hid_k hci
          obtain ⟨x, hx⟩ : ∃ x, ds.getD i 0 = x := ⟨_, rfl⟩
          rw [hx] at HNX HCI
          clear hci hx
          go_wp2_with fail
          go_loopw [4, 7, 8] (fun v4 v7 _ wr => ∃ k : Nat, k ≤ ds.length ∧ v7 = .int .i64 k ∧ IsEdges wr v4 ((ds.take k).foldl (onceY of x) E) ∧ Roomy v4 ∧ Below w2.heap.size w2 wr) (fun _ v7 _ _ => ds.length - (intOf v7).toNat)
          case atStart => exact ⟨0, Nat.zero_le _, rfl, HED.out.1, HED.out.2.1, HED.out.2.2⟩
          case round =>
            obtain ⟨k, hk, rfl, hed, hro, hbel⟩ := hrel
            have hFl := onceE_len (of := of) (ds.take k) E x
            have htk : (ds.take k).length ≤ k := List.length_take_le _ _
            obtain ⟨F, hF⟩ : ∃ F, (ds.take k).foldl (onceY of x) E = F := ⟨_, rfl⟩
            have HF := hid_k hF
            rw [hF] at hed hFl
            have HFD := hid_k (And.intro hed (And.intro hro hbel))
            have HBE := hid_k hbel
            clear hed hro hF
            by_cases hltk : k < ds.length
            · have hltk' : (k : Int) < (ds.length : Int) := by omega
              have hk0 : (0 : Int) ≤ (k : Int) := by omega
              have hkn : ¬ (k : Int) < 0 := by omega
              have hFl2 : F.length ≤ 100 := by omega
              obtain ⟨-, -, svk, wvk, ⟨sx', sy', sz', hsvk⟩, ⟨wx', wy', wz', hwvk⟩, hck⟩ := HC.out k hltk
              subst hsvk
              subst hwvk
              have HCK := hid_k hck
              obtain ⟨y, hy⟩ : ∃ y, ds.getD k 0 = y := ⟨_, rfl⟩
              have HNY : Hid ((ds.take (k + 1)).foldl (onceY of x) E = onceY of x F y) := by show _ = _; rw [takeI_fold _ _ hltk, HF.out, hy]
              rw [hy] at HCK
              clear hck hy hFl htk
              obtain ⟨ai, bi, hai⟩ : ∃ a b : Dl, of x = a ∧ of y = b := ⟨_, _, rfl, rfl⟩
              rw [hai.1] at HCI
              rw [hai.2] at HCK
              have HAI := hid_k hai
              clear hai
              have HCL : Hid (∀ W, Below w2.heap.size w2 W → Calls Tryd.prog 9 #[.agg #[.int .i64 x, .int .i64 ai.began, .int .i64 ai.ended, .slice sx sy sz, .slice wx wy wz], .agg #[.int .i64 y, .int .i64 bi.began, .int .i64 bi.ended, .slice sx' sy' sz', .slice wx' wy' wz']] W fun e w' => e = .returned (.bool (onceK ai bi)) ∧ Below W.heap.size W w' ∧ (DealAt w' b off i x ai (.slice sx sy sz) (.slice wx wy wz) ∧ DealAt w' b off k y bi (.slice sx' sy' sz') (.slice wx' wy' wz'))) := fun W hW => by
                refine (once_any x y ai bi _ _ _ _ W).mono ?_
                rintro e w' ⟨he, hb⟩
                have h2 := hW.trans (hb.mono hW.size)
                exact ⟨he, hb, HCI.out w' h2, HCK.out w' h2⟩
              have HK8 : Hid (DealAt wr.drew b off i x ai (.slice sx sy sz) (.slice wx wy wz) ∧ DealAt wr.drew b off k y bi (.slice sx' sy' sz') (.slice wx' wy' wz')) := ⟨HCI.out _ HBE.out.drew, HCK.out _ HBE.out.drew⟩
              have hbwr : b < wr.heap.size := Nat.lt_of_lt_of_le hbw HBE.out.size
              clear hbel
              go_wp2_with fail
              go_region_held3 (fun w' => (w'.cell? ⟨b, off + i * 5, none⟩ = some (.int .i64 x) ∧ w'.cell? ⟨b, off + i * 5 + 1, none⟩ = some (.int .i64 ai.began) ∧ w'.cell? ⟨b, off + i * 5 + 2, none⟩ = some (.int .i64 ai.ended) ∧ w'.cell? ⟨b, off + i * 5 + 3, none⟩ = some (.slice sx sy sz) ∧ w'.cell? ⟨b, off + i * 5 + 4, none⟩ = some (.slice wx wy wz)) ∧ w'.cell? ⟨b, off + k * 5, none⟩ = some (.int .i64 y) ∧ w'.cell? ⟨b, off + k * 5 + 1, none⟩ = some (.int .i64 bi.began) ∧ w'.cell? ⟨b, off + k * 5 + 2, none⟩ = some (.int .i64 bi.ended) ∧ w'.cell? ⟨b, off + k * 5 + 3, none⟩ = some (.slice sx' sy' sz') ∧ w'.cell? ⟨b, off + k * 5 + 4, none⟩ = some (.slice wx' wy' wz')) (first | exact g3 | exact HK8.out) (first | (go_at_call 9; refine (HCL.out _ HBE.out.drew).mono ?_; rintro e w3 ⟨rfl, hb3, g3⟩))
              all_goals
                have HW3 : Hid (Below w2.heap.size w2 w3) := HBE.out.drew.trans (hb3.mono HBE.out.drew.size)
                have HF3 : Hid (IsEdges w3 u4 F) := HFD.out.1.below (B := wr.heap.size) (((Below.refl _ wr).drew).trans hb3) (Nat.le_refl _)
                obtain ⟨⟨t0, -, -, -, -⟩, s0, -, -, -, -⟩ := g3
                clear hb3 HCL HK8
                by_cases hxy : x < y
                · have hxyd : decide (x < y) = true := decide_eq_true hxy
                  cases hon : onceK ai bi with
                  | false =>
                    have HEQ : Hid (onceY of x F y = F) := by show _ = _; unfold onceY; rw [HAI.out.1, HAI.out.2, if_neg (by rw [hon]; simp)]
                    clear hon
                    go_wp2_with fail
                    go_quiet (fail)
                    go_wp2_with fail
                    go_roundw
                    case rel => exact ⟨k + 1, by omega, by go_num, by rw [HNY.out, HEQ.out]; exact HF3.out.below (below_drewN (Below.refl w3.heap.size w3) _) (Nat.le_refl _), HFD.out.2.1, below_drewN HW3.out _⟩
                    case measure => simp [intOf]; omega
                  | true =>
                    have HEQ : Hid (onceY of x F y = addE F (x, y)) := by show _ = _; unfold onceY; rw [HAI.out.1, HAI.out.2, if_pos (by rw [hon, hxyd]; rfl)]
                    clear hon
                    go_wp2_with fail
                    go_quiet (fail)
                    obtain ⟨w4, hw4⟩ : ∃ Z : World, Z = w3.drewN nq := ⟨_, rfl⟩
                    have HB4 : Hid (Below w3.heap.size w3 w4) := by show Below _ _ _; rw [hw4]; exact below_drewN (Below.refl _ _) _
                    have HW4 : Hid (Below w2.heap.size w2 w4) := by show Below _ _ _; rw [hw4]; exact below_drewN HW3.out _
                    have HG4 : Hid (IsEdges w4 u4 F) := HF3.out.below HB4.out (Nat.le_refl _)
                    replace t0 : w4.cell? ⟨b, off + i * 5, none⟩ = some (.int .i64 x) := by rw [hw4]; exact t0
                    replace s0 : w4.cell? ⟨b, off + k * 5, none⟩ = some (.int .i64 y) := by rw [hw4]; exact s0
                    rw [← hw4]
                    clear hw4
                    have HK15 : Hid (w4.drew.cell? ⟨b, off + i * 5, none⟩ = some (.int .i64 x) ∧ w4.drew.cell? ⟨b, off + k * 5, none⟩ = some (.int .i64 y)) := ⟨t0, s0⟩
                    have HAD : Hid (Calls Tryd.prog 10 #[u4, .agg #[.int .i64 x, .int .i64 y]] w4.drew fun e w' => ∃ v', e = .returned v' ∧ (w'.cell? ⟨b, off + i * 5, none⟩ = some (.int .i64 x) ∧ w'.cell? ⟨b, off + k * 5, none⟩ = some (.int .i64 y)) ∧ IsEdges w' v' (addE F (x, y)) ∧ Roomy v' ∧ Below w2.heap.size w2 w') := by
                      have hdr := (Below.refl w4.heap.size w4).drew
                      refine (refAdd_any F x y u4 w4.drew (HG4.out.below hdr (Nat.le_refl _)) HFD.out.2.1 (by omega)).mono ?_
                      rintro e w' ⟨v', he, h1, h2, hb⟩
                      have h3 : Below w2.heap.size w2 w' := HW4.out.trans ((hdr.trans hb).mono HW4.out.size)
                      obtain ⟨t0, -, -, -, -⟩ := HCI.out _ h3
                      obtain ⟨s0, -, -, -, -⟩ := HCK.out _ h3
                      exact ⟨v', he, ⟨t0, s0⟩, h1, h2, h3⟩
                    go_wp2_with fail
                    go_region_held3 (fun w' => w'.cell? ⟨b, off + i * 5, none⟩ = some (.int .i64 x) ∧ w'.cell? ⟨b, off + k * 5, none⟩ = some (.int .i64 y)) (first | exact g5 | exact HK15.out) (first | (go_at_call 10; refine HAD.out.mono ?_; rintro e w5 ⟨v5, rfl, g5, hi5, hr5, hb5⟩; obtain ⟨xa, xb, xc, rfl, -⟩ := id hr5))
                    all_goals
                      have HI5 := hid_k (And.intro hi5 (And.intro hr5 hb5))
                      clear hi5 hr5 hb5 g5
                      go_wp2_with fail
                      go_roundw
                      case rel => exact ⟨k + 1, by omega, by go_num, by rw [HNY.out, HEQ.out]; exact HI5.out.1, HI5.out.2.1, HI5.out.2.2⟩
                      case measure => simp [intOf]; omega
                · have hxyd : decide (x < y) = false := decide_eq_false hxy
                  have HEQ : Hid (onceY of x F y = F) := by show _ = _; unfold onceY; rw [if_neg (by rw [hxyd]; simp)]
                  go_wp2_with fail
                  go_quiet (fail)
                  go_wp2_with fail
                  go_roundw
                  case rel => exact ⟨k + 1, by omega, by go_num, by rw [HNY.out, HEQ.out]; exact HF3.out.below (below_drewN (Below.refl w3.heap.size w3) _) (Nat.le_refl _), HFD.out.2.1, below_drewN HW3.out _⟩
                  case measure => simp [intOf]; omega
            · have hltk' : ¬ (k : Int) < (ds.length : Int) := by omega
              obtain rfl : k = ds.length := by omega
              have HEQ : Hid (onceX of ds E x = F) := by show _ = _; unfold onceX; rw [← HF.out, List.take_length]
              go_wp2_with fail
              go_roundw
              case rel => exact ⟨i + 1, by omega, by go_num, by rw [HNX.out, HEQ.out]; exact HFD.out.1, HFD.out.2.1, HFD.out.2.2⟩
              case measure => simp [intOf]; omega
        · have hlt' : ¬ (i : Int) < (ds.length : Int) := by omega
          obtain rfl : i = ds.length := by omega
          have HEN : Hid (E = togL of ds) := by show _ = _; rw [← once_tog HRG.out, ← HE.out, List.take_length]; rfl
          go_wp2_with fail
          go_meet
          case rel =>
            rw [HTG.out, ← HEN.out]
            exact ⟨HED.out.1, by obtain ⟨a, n, c, h, _⟩ := HED.out.2.1; exact ⟨a, n, c, h⟩, HST.out _ _ HB2.out HED.out.2.2⟩
    · have hcb : (ce == 0) = false := by simpa using hc
      go_wp2_with fail
      go_meet
      case rel => rw [if_pos hc]; exact ⟨isEdges_nil _, ⟨none, 0, 0, rfl⟩, HB1.out⟩
  case rest =>
    obtain ⟨hed, ⟨px, py, pz, rfl⟩, hbc⟩ := hcut
    obtain ⟨TG, hTG⟩ : ∃ x, (if ce ≠ 0 then [] else togL (runK 2 okS l l.length).of (runK 2 okS l l.length).done) = x := ⟨_, rfl⟩
    have HTL : Hid (TG.length ≤ 36) := by
      show _ ≤ _
      rw [← hTG]
      split
      · simp
      · exact allE_len _
    rw [hTG] at hed HTO
    have HED := hid_k hed
    have HBC := hid_k hbc
    clear hed hbc hTG HREF HB1
    go_wp2_with fail
    refine (HTO.out _ HBC.out).mono ?_
    rintro e w3 ⟨v3, rfl, hi3, hb3⟩
    obtain ⟨qx, qy, qz, hv3⟩ : ∃ ad n c, v3 = .slice ad n c := by obtain ⟨ad, _, _, cap, hv, _⟩ := hi3; exact ⟨ad, _, cap, hv⟩
    subst hv3
    have HI3 := hid_k hi3
    have HE3 := hid_k (HED.out.below hb3 (Nat.le_refl _))
    have HB3 := hid_k (HST.out _ _ HBC.out hb3)
    clear hi3 hb3 HTO HED
    go_wp2_with fail
    refine (HER.out _ HB3.out).mono ?_
    rintro e w4 ⟨rfl, hb4⟩
    have HSE := hid_k (same_edges TG _ _ w4 (HI3.out.below hb4 (Nat.le_refl _)) (HE3.out.below hb4 (Nat.le_refl _)) (by have := HTL.out; omega))
    have HB4 := hid_k (HST.out _ _ HB3.out hb4)
    clear hb4 HER
    go_wp2_with fail
    refine HSE.out.mono ?_
    rintro e w5 ⟨rfl, hb5⟩
    have HB5 := hid_k (HST.out _ _ HB4.out hb5)
    clear hb5 HSE
    go_wp2_with fail
    refine (HRUN.out _ HB5.out).mono ?_
    rintro e w6 ⟨a1, a2, a3, rfl, h1, h2, h3, -, hb6⟩
    obtain ⟨p1, q1, s1, rfl⟩ : ∃ ad n c, a1 = .slice ad n c := by obtain ⟨ad, _, _, cap, hv, _⟩ := h1; exact ⟨ad, _, cap, hv⟩
    obtain ⟨p2, q2, s2, rfl⟩ : ∃ ad n c, a2 = .slice ad n c := by obtain ⟨ad, _, _, cap, hv, _⟩ := h2; exact ⟨ad, _, cap, hv⟩
    obtain ⟨p3, q3, s3, rfl⟩ : ∃ ad n c, a3 = .slice ad n c := by obtain ⟨ad, _, _, cap, hv, _⟩ := h3; exact ⟨ad, _, cap, hv⟩
    have hbn : Below w6.heap.size w6 (w6.alloc (.cells #[.slice p1 q1 s1, .slice p2 q2 s2, .slice p3 q3 s3] 26)) := (Below.refl _ w6).alloc (Nat.le_refl _) _
    have HB7 := hid_k (HST.out _ _ (HST.out _ _ HB5.out hb6) hbn)
    have HTC := hid_k (HTE.out _ _ _ _ HB7.out (h1.below hbn (Nat.le_refl _)) (h2.below hbn (Nat.le_refl _)) (h3.below hbn (Nat.le_refl _)))
    clear h1 h2 h3 hb6 hbn HTE HRUN
    go_wp2_with fail
    refine HTC.out.mono ?_
    rintro e w8 ⟨rfl, hb8⟩
    have HB8 := hid_k (HST.out _ _ HB7.out hb8)
    clear hb8
    go_wp2_with fail
    go_ret
    exact ⟨rfl, HB8.out⟩
end Go.Proofs.YtccjognnehoodafDoor
