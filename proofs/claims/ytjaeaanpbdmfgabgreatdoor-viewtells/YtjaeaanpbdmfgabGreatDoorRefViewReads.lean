/-
  PROVED HERE: laneref1.Reads gives each Read and from whom it reads; laneref1.writer the place of the Write that an op reads; lanesame.Sources tells whether two lists are one. Old memory stays as it was.
  Conditions: the lists are short.
-/
import Derived.Test.YtjaeaanpbdmfgabGreatDoorMgam
import Derived.Test.YtjaeaanpbdmfgabGreatDoorMgas
import Derived.Test.YtjaeaanpbdmfgabGreatDoorMgaf
import Derived.Test.YtjaeaanpbdmfgabGreatDoorMgak
namespace Go.Proofs.YtjaeaanpbdmfgabGreatDoor
open Go.RowKit

theorem rInfoSrc : (Tryz.prog.info? 73).map (fun i => (i.zero, i.size, i.bytes)) = some (some (.agg #[.int .i64 0, .int .i64 0]), 2, 16) := by kernel_rfl
theorem r_one_src (w : World) (t a : Int) : ∀ j u, (flatE [(t, a)])[j]? = some u → (w.alloc (.cells #[.int .i64 t, .int .i64 a] 73)).cell? ((⟨w.heap.size, 0, none⟩ : Addr).add j) = some u := by
  intro j u hj
  match j, hj with
  | 0, hj => simp [flatE] at hj; subst hj; simp [Addr.add]
  | 1, hj => simp [flatE] at hj; subst hj; simp [Addr.add]
  | k + 2, hj => simp [flatE] at hj
set_option maxHeartbeats 8000000 in
theorem refReads_any (l : List Op3) (v : Value) (w : World) (hI : IsOps w v l) (hl : l.length ≤ 40) :
    Calls Tryz.prog 17 #[v] w fun e w' => ∃ v', e = .returned v' ∧ IsEdges w' v' (readsTo l l.length) ∧ Below w.heap.size w w' := by
  obtain ⟨ad, b, off, cap, rfl, ha, -, hbB, hops⟩ := hI
  have HE : Hid (∀ W, Below w.heap.size w W → ∀ k, k < l.length → ad = some ⟨b, off, none⟩ ∧ W.cell? ⟨b, off + k * 3, none⟩ = some (.int .i64 (opAt l k).1) ∧ W.cell? ⟨b, off + k * 3 + 1, none⟩ = some (.int .i64 (opAt l k).2.1) ∧ W.cell? ⟨b, off + k * 3 + 2, none⟩ = some (.int .i64 (opAt l k).2.2)) := fun W hW k hk => ⟨ha (by omega), (hops.below hW hbB) k hk⟩
  obtain ⟨i0, hi, hz0, hs0, hy0⟩ := info_parts rInfoSrc
  have HI : Hid (Tryz.prog.info? 73 = some i0 ∧ i0.zero = some (.agg #[.int .i64 0, .int .i64 0]) ∧ i0.size = 2 ∧ i0.bytes = 16) := ⟨hi, hz0, hs0, hy0⟩
  clear ha hbB hops hi hz0 hs0 hy0
  go_enter Tryz.func17, Tryz.ntmps17
  go_wp2_with fail
  go_loopw [3, 4] (fun v3 v4 wr => ∃ i : Nat, i ≤ l.length ∧ v4 = .int .i64 i ∧ wr.ownsRow w.heap.size 73 2 v3 (readsTo l i).length (flatE (readsTo l i)) ∧ Below w.heap.size w wr) (fun _ v4 _ => l.length - (intOf v4).toNat)
  case atStart => exact ⟨0, Nat.zero_le _, rfl, World.ownsRow_nil _ _ _ _, Below.refl _ _⟩
  case round =>
    obtain ⟨i, hi, rfl, hown, hbel⟩ := hrel
    by_cases hlt : i < l.length
    · have hlt' : (i : Int) < (l.length : Int) := by omega
      obtain ⟨hadr, -, c1, c2⟩ := HE.out wr hbel i hlt
      subst hadr
      obtain ⟨⟨t, a, x⟩, ho⟩ : ∃ o : Op3, opAt l i = o := ⟨_, rfl⟩
      rw [ho] at c1 c2
      simp only at c1 c2
      have HO : Hid (opAt l i = (t, a, x)) := ho
      clear ho
      obtain ⟨n1, hn1⟩ : ∃ n1, (readsTo l i).length = n1 := ⟨_, rfl⟩
      have hn1b : n1 ≤ 40 := by rw [← hn1]; have := readsTo_len l i; omega
      have HN1 : Hid ((readsTo l i).length = n1) := hn1
      rw [hn1] at hown
      have HOWN : Hid (wr.ownsRow w.heap.size 73 2 u3 n1 (flatE (readsTo l i))) := hown
      clear hown hn1
      obtain ⟨WR, hWR⟩ : ∃ W : World, W = wr := ⟨_, rfl⟩
      subst hWR
      have hbL : b < WR.heap.size := World.block_lt_of_cell? WR _ c1
      by_cases ha1 : a = 1
      · subst ha1
        go_wp2_with fail
        go_loopw [5, 6] (fun v5 v6 wr => ∃ k : Nat, k ≤ i ∧ v6 = .int .i64 k ∧ v5 = .int .i64 (lastW l k x).1.1 ∧ Below WR.heap.size WR wr) (fun _ v6 _ => i - (intOf v6).toNat)
        case atStart => exact ⟨0, Nat.zero_le _, rfl, rfl, Below.refl _ _⟩
        case round =>
          obtain ⟨k, hk, rfl, rfl, hb2⟩ := hrel
          have d2 := (hb2.cell (p := ⟨b, off + i * 3 + 2, none⟩) hbL).trans c2
          clear c1 c2
          obtain ⟨sx, hsx⟩ : ∃ sx, (lastW l k x).1.1 = sx := ⟨_, rfl⟩
          have HSX : Hid ((lastW l k x).1.1 = sx) := hsx
          rw [hsx]
          clear hsx
          by_cases hki : k < i
          · have hki' : (k : Int) < (i : Int) := by omega
            have hkl' : (k : Int) < (l.length : Int) := by omega
            obtain ⟨-, e0, e1, e2⟩ := HE.out wr (hbel.trans (hb2.mono hbel.size)) k (by omega)
            obtain ⟨⟨t2, a2, x2⟩, ho2⟩ : ∃ o : Op3, opAt l k = o := ⟨_, rfl⟩
            rw [ho2] at e0 e1 e2
            simp only at e0 e1 e2
            have HO2 : Hid (opAt l k = (t2, a2, x2)) := ho2
            clear ho2
            cases hq : (a2 == 2) with
            | false =>
              have HW : Hid (lastW l (k + 1) x = lastW l k x) := lastW_pass (by rw [HO2.out]; exact fun hh => (show ¬ a2 = 2 by simpa using hq) hh.1)
              go_wp2_with fail
              go_quiet (fail)
              go_wp2
              go_roundw
              case rel => exact ⟨k + 1, by omega, by go_num, by rw [HW.out, HSX.out], below_drewN hb2 _⟩
              case measure => simp [intOf]; omega
            | true =>
              cases hq2 : (x2 == x) with
              | false =>
                have HW : Hid (lastW l (k + 1) x = lastW l k x) := lastW_pass (by rw [HO2.out]; exact fun hh => (show ¬ x2 = x by simpa using hq2) hh.2)
                go_wp2_with fail
                go_quiet (fail)
                go_wp2
                go_roundw
                case rel => exact ⟨k + 1, by omega, by go_num, by rw [HW.out, HSX.out], below_drewN hb2 _⟩
                case measure => simp [intOf]; omega
              | true =>
                have HW : Hid ((lastW l (k + 1) x).1.1 = t2) := by
                  show (lastW l (k + 1) x).1.1 = t2
                  rw [lastW_hit (by rw [HO2.out]; simpa using hq) (by rw [HO2.out]; simpa using hq2)]
                  unfold nameAt
                  rw [HO2.out]
                go_wp2_with fail
                go_quiet (fail)
                go_wp2
                go_roundw
                case rel => exact ⟨k + 1, by omega, by go_num, by rw [HW.out], below_drewN hb2 _⟩
                case measure => simp [intOf]; omega
          · have hki' : ¬ (k : Int) < (i : Int) := by omega
            obtain rfl : k = i := by omega
            have HRD : Hid (readsTo l (k + 1) = readsTo l k ++ [((k : Int), sx)]) := by
              show readsTo l (k + 1) = readsTo l k ++ [((k : Int), sx)]
              rw [readsTo, HO.out, if_pos rfl]
              simp only [HSX.out]
            have HOW2 : Hid (wr.ownsRow w.heap.size 73 2 u3 n1 (flatE (readsTo l k))) := own_below HOWN.out hb2 (Nat.le_refl _)
            have hb02 := hbel.trans (hb2.mono hbel.size)
            have hs02 := hb02.size
            go_wp2_with (at_builtin; refine wpList_append_own _ rfl (.tmp 48) (.tmp 52) 45 rfl w.heap.size 73 i0 (.agg #[.int .i64 0, .int .i64 0]) 2 16 Tryz.underlying45 HI.out.1 HI.out.2.1 HI.out.2.2.1 HI.out.2.2.2 rfl (by decide) u3 n1 (flatE (readsTo l k)) rfl (HOW2.out.alloc _) ⟨wr.heap.size, 0, none⟩ 1 1 (flatE [((k : Int), sx)]) rfl rfl (r_one_src wr k sx) (flatE_one _) (by unfold maxLen; omega) (by omega) (by simp; omega) ?_; intro v4 w4 hown4 hgr4 hnil4)
            have hB4 := (hb02.alloc hs02 _).grown hgr4 (by simp; omega) (fun q hq => (HOW2.out.lt q hq).1)
            go_roundw
            case rel => exact ⟨k + 1, by omega, by go_num, by rw [HRD.out, flatE_append, List.length_append, HN1.out]; exact hown4, hB4⟩
            case measure => simp [intOf]; omega
      · have ha1' : (a != 1) = true := by simpa using ha1
        have HRD : Hid (readsTo l (i + 1) = readsTo l i) := by
          show readsTo l (i + 1) = readsTo l i
          rw [readsTo, HO.out, if_neg ha1]
        clear ha1
        go_wp2_with fail
        go_roundw
        case rel => exact ⟨i + 1, by omega, by go_num, by rw [HRD.out, HN1.out]; exact HOWN.out, hbel⟩
        case measure => simp [intOf]; omega
    · have hlt' : ¬ (i : Int) < (l.length : Int) := by omega
      obtain rfl : i = l.length := by omega
      have HX : Hid (IsEdges wr u3 (readsTo l l.length)) := isEdges_own hown rfl
      clear hown
      go_wp2_with fail
      go_ret
      exact ⟨_, rfl, HX.out, hbel⟩
/-- The place of the Write, as a number. -/
def wrI (l : List Op3) (x : Int) (k : Nat) : Int := match wrTo l x k with | none => -1 | some j => j
theorem wrI_hit {l : List Op3} {x : Int} {k : Nat} (h1 : (opAt l k).2.1 = 2) (h2 : (opAt l k).2.2 = x) : wrI l x (k + 1) = k := by unfold wrI; rw [wrTo_hit h1 h2]
theorem wrI_pass {l : List Op3} {x : Int} {k : Nat} (h : ¬ ((opAt l k).2.1 = 2 ∧ (opAt l k).2.2 = x)) : wrI l x (k + 1) = wrI l x k := by unfold wrI; rw [wrTo_pass h]
set_option maxHeartbeats 4000000 in
theorem writer_any (l : List Op3) (v : Value) (i : Nat) (w : World) (hI : IsOps w v l) (hl : l.length ≤ 40) (hi : i < l.length) :
    Calls Tryz.prog 52 #[v, .int .i64 i] w fun e w' => e = .returned (.int .i64 (wrI l (opAt l i).2.2 i)) ∧ Below w.heap.size w w' := by
  obtain ⟨ad, b, off, cap, rfl, ha, -, hbB, hops⟩ := hI
  have HE : Hid (∀ W, Below w.heap.size w W → ∀ k, k < l.length → ad = some ⟨b, off, none⟩ ∧ W.cell? ⟨b, off + k * 3 + 1, none⟩ = some (.int .i64 (opAt l k).2.1) ∧ W.cell? ⟨b, off + k * 3 + 2, none⟩ = some (.int .i64 (opAt l k).2.2)) := fun W hW k hk => by
    obtain ⟨_, h1, h2⟩ := (hops.below hW hbB) k hk
    exact ⟨ha (by omega), h1, h2⟩
  obtain ⟨x, hx⟩ : ∃ x, (opAt l i).2.2 = x := ⟨_, rfl⟩
  rw [hx]
  have HX : Hid ((opAt l i).2.2 = x) := hx
  have hil : (i : Int) < (l.length : Int) := by omega
  clear ha hbB hops hx
  go_enter Tryz.func52, Tryz.ntmps52
  go_wp2_with fail
  go_loopw [5, 6] (fun v5 v6 wr => ∃ k : Nat, k ≤ i ∧ v6 = .int .i64 k ∧ v5 = .int .i64 (wrI l x k) ∧ Below w.heap.size w wr) (fun _ v6 _ => i - (intOf v6).toNat)
  case atStart => exact ⟨0, Nat.zero_le _, rfl, rfl, Below.refl _ _⟩
  case round =>
    obtain ⟨k, hk, rfl, rfl, hb2⟩ := hrel
    obtain ⟨sx, hsx⟩ : ∃ sx, wrI l x k = sx := ⟨_, rfl⟩
    have HSX : Hid (wrI l x k = sx) := hsx
    rw [hsx]
    clear hsx
    by_cases hki : k < i
    · have hki' : (k : Int) < (i : Int) := by omega
      have hkl' : (k : Int) < (l.length : Int) := by omega
      obtain ⟨hadr, e1, e2⟩ := HE.out wr hb2 k (by omega)
      subst hadr
      obtain ⟨-, -, d2⟩ := HE.out wr hb2 i hi
      rw [HX.out] at d2
      obtain ⟨⟨t2, a2, x2⟩, ho2⟩ : ∃ o : Op3, opAt l k = o := ⟨_, rfl⟩
      rw [ho2] at e1 e2
      simp only at e1 e2
      have HO2 : Hid (opAt l k = (t2, a2, x2)) := ho2
      clear ho2
      cases hq : (a2 == 2) with
      | false =>
        have HW : Hid (wrI l x (k + 1) = wrI l x k) := wrI_pass (by rw [HO2.out]; exact fun hh => (show ¬ a2 = 2 by simpa using hq) hh.1)
        go_wp2_with fail
        go_quiet (fail)
        go_wp2
        go_roundw
        case rel => exact ⟨k + 1, by omega, by go_num, by rw [HW.out, HSX.out], below_drewN hb2 _⟩
        case measure => simp [intOf]; omega
      | true =>
        cases hq2 : (x2 == x) with
        | false =>
          have HW : Hid (wrI l x (k + 1) = wrI l x k) := wrI_pass (by rw [HO2.out]; exact fun hh => (show ¬ x2 = x by simpa using hq2) hh.2)
          go_wp2_with fail
          go_quiet (fail)
          go_wp2
          go_roundw
          case rel => exact ⟨k + 1, by omega, by go_num, by rw [HW.out, HSX.out], below_drewN hb2 _⟩
          case measure => simp [intOf]; omega
        | true =>
          have HW : Hid (wrI l x (k + 1) = k) := wrI_hit (by rw [HO2.out]; simpa using hq) (by rw [HO2.out]; simpa using hq2)
          go_wp2_with fail
          go_quiet (fail)
          go_wp2
          go_roundw
          case rel => exact ⟨k + 1, by omega, by go_num, by rw [HW.out], below_drewN hb2 _⟩
          case measure => simp [intOf]; omega
    · have hki' : ¬ (k : Int) < (i : Int) := by omega
      obtain rfl : k = i := by omega
      go_wp2_with fail
      go_ret
      exact ⟨by rw [HSX.out]; rfl, hb2⟩
set_option maxHeartbeats 4000000 in
theorem sources_any (l : List Edge2) (v u : Value) (w : World) (hv : IsEdges w v l) (hu : IsEdges w u l) (hlen : l.length ≤ 1000) :
    Calls Tryz.prog 20 #[v, u] w fun e w' => e = .returned (.bool true) ∧ Below w.heap.size w w' := by
  obtain ⟨ad, b, off, cap, rfl, ha, _, hbB, hops⟩ := hv
  obtain ⟨ad2, b2, off2, cap2, rfl, ha2, _, hbB2, hops2⟩ := hu
  go_enter Tryz.func20, Tryz.ntmps20
  go_wp2
  go_loopw [5] (fun v5 wr => ∃ k : Nat, k ≤ l.length ∧ v5 = .int .i64 k ∧ Below w.heap.size w wr) (fun v5 _ => l.length - (intOf v5).toNat)
  case atStart => exact ⟨0, Nat.zero_le _, rfl, Below.refl _ _⟩
  case round =>
    obtain ⟨k, hk, rfl, hbel⟩ := hrel
    by_cases hlt : k < l.length
    · obtain rfl := ha (by omega)
      obtain rfl := ha2 (by omega)
      obtain ⟨c0, c1⟩ := (hops.below hbel hbB) k hlt
      obtain ⟨d0, d1⟩ := (hops2.below hbel hbB2) k hlt
      obtain ⟨⟨t, a⟩, ho⟩ : ∃ o : Edge2, l.getD k (0, 0) = o := ⟨_, rfl⟩
      rw [ho] at c0 c1 d0 d1
      simp only at c0 c1 d0 d1
      clear ho hops hops2 ha ha2 hbB hbB2
      go_wp2
      go_quiet (fail)
      go_wp2
      go_roundw
      case rel => exact ⟨k + 1, by omega, by go_num, below_drewN hbel _⟩
      case measure => simp [intOf]; omega
    · go_wp2
      go_ret
      exact ⟨rfl, hbel⟩
end Go.Proofs.YtjaeaanpbdmfgabGreatDoor
