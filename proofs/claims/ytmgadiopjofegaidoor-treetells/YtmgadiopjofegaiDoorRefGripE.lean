/-
  PROVED HERE: laneref2.GripEdges, the document's own answer, tells which deals locked an item ahead of which, in order (gripL). Old memory stays as it was.
  Conditions: at most 40 grips; the deals are 1 to 6.
-/
import Derived.Test.YtmgadiopjofegaiDoorRefTree
import Derived.Deep.RegionHeld3
namespace Go.Proofs.YtmgadiopjofegaiDoor
open Go.RowKit

theorem gRow_len (l : List Grip3) (i : Nat) (out : List Edge2) : ∀ k, (gRow l i out k).length ≤ out.length + k := by
  intro k
  induction k with
  | zero => simp [gRow]
  | succ k ih =>
    rw [gRow]
    split
    · have := addE_len (gRow l i out k) (gEdge l i k); omega
    · omega
theorem gAll_len (l : List Grip3) : ∀ n, (gAll l n).length ≤ n * l.length := by
  intro n
  induction n with
  | zero => simp [gAll]
  | succ n ih =>
    rw [gAll, Nat.succ_mul]
    have := gRow_len l n (gAll l n) l.length
    omega
set_option maxHeartbeats 16000000 in
set_option maxRecDepth 100000 in
theorem refGripE_any (l : List Grip3) (v : Value) (w : World) (hI : IsGrips w v l) (hl : l.length ≤ 40) :
    Calls Tryd.prog 10 #[v] w fun e w' => ∃ v', e = .returned v' ∧ IsEdges w' v' (gAll l l.length) ∧ Below w.heap.size w w' := by
  obtain ⟨ad, b, off, cap, rfl, ha, -, hbB, hc⟩ := hI
  have HE : Hid (∀ W, Below w.heap.size w W → ∀ k, k < l.length → ad = some ⟨b, off, none⟩ ∧ b < W.heap.size ∧ W.cell? ⟨b, off + k * 3, none⟩ = some (.int .i64 (gAt l k).1) ∧ W.cell? ⟨b, off + k * 3 + 1, none⟩ = some (.int .i64 (gAt l k).2.1) ∧ W.cell? ⟨b, off + k * 3 + 2, none⟩ = some (.bool (gAt l k).2.2)) := fun W hW k hk => by
    have hlt : b < w.heap.size := by
      rcases hbB with h | h
      · exact h
      · subst h; cases hk
    obtain ⟨c0, c1, c2⟩ := hc k hk
    exact ⟨ha (by omega), Nat.lt_of_lt_of_le hlt hW.size, (hW.cell (p := ⟨b, off + k * 3, none⟩) hlt).trans c0, (hW.cell (p := ⟨b, off + k * 3 + 1, none⟩) hlt).trans c1, (hW.cell (p := ⟨b, off + k * 3 + 2, none⟩) hlt).trans c2⟩
  have HLE : Hid (∀ n, n ≤ l.length → (gAll l n).length ≤ 1600) := fun n hn => by
    have h1 := gAll_len l n
    have h2 : n * l.length ≤ 40 * 40 := Nat.mul_le_mul (by omega) hl
    omega
  obtain ⟨n, hn⟩ : ∃ n, l.length = n := ⟨_, rfl⟩
  have HN := hid_r hn
  rw [hn] at HE HLE hl
  rw [hn]
  clear ha hbB hc hn
  go_enter Tryd.func10, Tryd.ntmps10
  go_wp2_with fail
  go_loopw [3, 4] (fun v3 v4 wr => ∃ i : Nat, i ≤ n ∧ v4 = .int .i64 i ∧ IsEdges wr v3 (gAll l i) ∧ Roomy v3 ∧ Below w.heap.size w wr) (fun _ v4 _ => n - (intOf v4).toNat)
  case atStart => exact ⟨0, Nat.zero_le _, rfl, isEdges_nil _, ⟨_, _, _, rfl, Nat.le_refl _⟩, Below.refl _ _⟩
  case round =>
    obtain ⟨i, hi, rfl, hed, hro, hbel⟩ := hrel
    have HED := hid_r hed
    have HRO := hid_r hro
    have HBE := hid_r hbel
    obtain ⟨x3, y3, z3, rfl, -⟩ := hro
    clear hed hbel
    by_cases hlt : i < n
    · have hlt' : (i : Int) < (n : Int) := by omega
      have HE1 : Hid (IsEdges wr (.slice x3 y3 z3) (gRow l i (gAll l i) (i + 1))) := by show IsEdges _ _ _; rw [gRow_first]; exact HED.out
      obtain ⟨WA, hWA⟩ : ∃ W : World, W = wr := ⟨_, rfl⟩
      subst hWA
      clear HED
      go_wp2_with fail
      go_loopw [3, 5] (fun v3 v5 wr => ∃ k : Nat, i < k ∧ k ≤ n ∧ v5 = .int .i64 k ∧ IsEdges wr v3 (gRow l i (gAll l i) k) ∧ Roomy v3 ∧ Below w.heap.size w wr) (fun _ v5 _ => n - (intOf v5).toNat)
      case atStart => exact ⟨i + 1, by omega, by omega, by go_num, HE1.out, HRO.out, HBE.out⟩
      case round =>
        clear HE1 HRO HBE
        obtain ⟨k, hik, hk, rfl, hed, hro, hbel⟩ := hrel
        have HED := hid_r hed
        have HRO := hid_r hro
        have HBE := hid_r hbel
        obtain ⟨x4, y4, z4, rfl, -⟩ := hro
        clear hed hbel
        by_cases hkl : k < n
        · have hkl' : (k : Int) < (n : Int) := by omega
          have hi0 : (0 : Int) ≤ (i : Int) := by omega
          have hin : ¬ (i : Int) < 0 := by omega
          have hk0 : (0 : Int) ≤ (k : Int) := by omega
          have hkn : ¬ (k : Int) < 0 := by omega
          obtain ⟨rfl, hbw, c0, c1, c2⟩ := HE.out wr HBE.out i hlt
          obtain ⟨-, -, d0, d1, d2⟩ := HE.out wr HBE.out k hkl
          have HNX : Hid (gRow l i (gAll l i) (k + 1) = if pairG l i k = true then addE (gRow l i (gAll l i) k) (gEdge l i k) else gRow l i (gAll l i) k) := by
            show _ = _
            rw [gRow]
            by_cases hp : pairG l i k = true
            · rw [if_pos ⟨hik, hp⟩, if_pos hp]
            · rw [if_neg (fun h => hp h.2), if_neg hp]
          have HLG : Hid ((gRow l i (gAll l i) k).length ≤ 2000) := by
            have h1 := gRow_len l i (gAll l i) k
            have h2 := HLE.out i hi
            show _ ≤ _
            omega
          obtain ⟨⟨t1, a1, b1⟩, hg1⟩ : ∃ g, gAt l i = g := ⟨_, rfl⟩
          obtain ⟨⟨t2, a2, b2⟩, hg2⟩ : ∃ g, gAt l k = g := ⟨_, rfl⟩
          rw [hg1] at c0 c1 c2
          rw [hg2] at d0 d1 d2
          simp only at c0 c1 c2 d0 d1 d2
          have HPG : Hid (pairG l i k = (b1 && (b2 && a1 == a2)) ∧ gEdge l i k = (t1, t2)) := by unfold pairG gEdge; rw [hg1, hg2]; exact ⟨rfl, rfl⟩
          obtain ⟨G, hG⟩ : ∃ G, gRow l i (gAll l i) k = G := ⟨_, rfl⟩
          rw [hG] at HED HNX HLG
          rw [HPG.out.1, HPG.out.2] at HNX
          have HBQ : Hid (∀ nq, Below wr.heap.size wr (wr.drewN nq)) := fun nq => below_drewN (Below.refl _ _) _
          have HSTAY : Hid ((b1 && (b2 && a1 == a2)) = false → ∀ nq, IsEdges (wr.drewN nq) (.slice x4 y4 z4) (gRow l i (gAll l i) (k + 1)) ∧ Below w.heap.size w (wr.drewN nq)) := fun h nq => by
            rw [HNX.out, if_neg (by rw [h]; decide)]
            exact ⟨HED.out.below (HBQ.out nq) (Nat.le_refl _), HBE.out.trans ((HBQ.out nq).mono HBE.out.size)⟩
          clear hg1 hg2 hG
          cases b1 with
          | false =>
            have HS := hid_r (HSTAY.out rfl)
            clear HSTAY HNX
            go_upto_region 8 with (fail)
            go_quiet (fail)
            go_wp2_with fail
            go_roundw
            case rel => exact ⟨k + 1, by omega, by omega, by go_num, (HS.out _).1, HRO.out, (HS.out _).2⟩
            case measure => simp [intOf]; omega
          | true =>
            cases b2 with
            | false =>
              have HS := hid_r (HSTAY.out rfl)
              clear HSTAY HNX
              go_upto_region 8 with (fail)
              go_quiet (fail)
              go_wp2_with fail
              go_roundw
              case rel => exact ⟨k + 1, by omega, by omega, by go_num, (HS.out _).1, HRO.out, (HS.out _).2⟩
              case measure => simp [intOf]; omega
            | true =>
              by_cases hq : a1 = a2
              · have hq' : (a1 == a2) = true := by simpa using hq
                have HN2 : Hid (gRow l i (gAll l i) (k + 1) = addE G (t1, t2)) := by show _ = _; rw [HNX.out, if_pos (by rw [hq']; rfl)]
                have HAD : Hid (∀ W, Below wr.heap.size wr W → Calls Tryd.prog 16 #[.slice x4 y4 z4, .agg #[.int .i64 t1, .int .i64 t2]] W fun e w' => ∃ v', e = .returned v' ∧ (w'.cell? ⟨b, off + i * 3, none⟩ = some (.int .i64 t1) ∧ w'.cell? ⟨b, off + k * 3, none⟩ = some (.int .i64 t2)) ∧ IsEdges w' v' (addE G (t1, t2)) ∧ Roomy v' ∧ Below w.heap.size w w') := fun W hW => by
                  refine (refAdd_any G t1 t2 _ W (HED.out.below hW (Nat.le_refl _)) HRO.out HLG.out).mono ?_
                  rintro e w' ⟨v', he, h1, h2, h3⟩
                  have h4 : Below wr.heap.size wr w' := hW.trans (h3.mono hW.size)
                  exact ⟨v', he, ⟨(h4.cell (p := ⟨b, off + i * 3, none⟩) hbw).trans c0, (h4.cell (p := ⟨b, off + k * 3, none⟩) hbw).trans d0⟩, h1, h2, HBE.out.trans (h4.mono HBE.out.size)⟩
                clear HSTAY HNX hq
                go_upto_region 8 with (fail)
                go_quiet (fail)
                have f0 : (wr.drewN nq).cell? ⟨b, off + i * 3, none⟩ = some (.int .i64 t1) := c0
                have f1 : (wr.drewN nq).cell? ⟨b, off + k * 3, none⟩ = some (.int .i64 t2) := d0
                obtain ⟨W2, hW2⟩ : ∃ W, W = wr.drewN nq := ⟨_, rfl⟩
                have HAD2 : Hid (Calls Tryd.prog 16 #[.slice x4 y4 z4, .agg #[.int .i64 t1, .int .i64 t2]] W2.drew fun e w' => ∃ v', e = .returned v' ∧ (w'.cell? ⟨b, off + i * 3, none⟩ = some (.int .i64 t1) ∧ w'.cell? ⟨b, off + k * 3, none⟩ = some (.int .i64 t2)) ∧ IsEdges w' v' (addE G (t1, t2)) ∧ Roomy v' ∧ Below w.heap.size w w') := HAD.out _ (by rw [hW2]; exact (HBQ.out nq).drew)
                have hbw2 : b < W2.heap.size := by rw [hW2]; exact Nat.lt_of_lt_of_le hbw (HBQ.out nq).size
                rw [← hW2] at f0 f1 ⊢
                clear hW2 c0 c1 c2 d0 d1 d2 HAD hbw
                go_wp2_with fail
                go_region_held3 (fun w' => w'.cell? ⟨b, off + i * 3, none⟩ = some (.int .i64 t1) ∧ w'.cell? ⟨b, off + k * 3, none⟩ = some (.int .i64 t2)) (first | exact g5 | exact ⟨f0, f1⟩) (first | (go_at_call 16; refine HAD2.out.mono ?_; rintro e w5 ⟨v5, rfl, g5, hi5, hr5, hb5⟩; obtain ⟨xa, xb, xc, rfl, -⟩ := id hr5))
                all_goals
                  go_wp2_with fail
                  go_roundw
                  case rel => exact ⟨k + 1, by omega, by omega, by go_num, by rw [HN2.out]; exact hi5, hr5, hb5⟩
                  case measure => simp [intOf]; omega
              · have hq' : (a1 == a2) = false := by simpa using hq
                have HS := hid_r (HSTAY.out (by rw [hq']; rfl))
                clear HSTAY HNX hq
                go_upto_region 8 with (fail)
                go_quiet (fail)
                go_wp2_with fail
                go_roundw
                case rel => exact ⟨k + 1, by omega, by omega, by go_num, (HS.out _).1, HRO.out, (HS.out _).2⟩
                case measure => simp [intOf]; omega
        · have hkl' : ¬ (k : Int) < (n : Int) := by omega
          have HF : Hid (IsEdges wr (.slice x4 y4 z4) (gAll l (i + 1))) := by show IsEdges _ _ _; rw [gAll, HN.out, show n = k by omega]; exact HED.out
          go_wp2_with fail
          go_roundw
          case rel => exact ⟨i + 1, by omega, by go_num, HF.out, HRO.out, HBE.out⟩
          case measure => simp [intOf]; omega
    · have hlt' : ¬ (i : Int) < (n : Int) := by omega
      obtain rfl : i = n := by omega
      go_wp2_with fail
      go_ret
      exact ⟨_, rfl, HED.out, HBE.out⟩
end Go.Proofs.YtmgadiopjofegaiDoor
