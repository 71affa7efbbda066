/-
  PROVED HERE: laneref2.Outcome, of deals by their numbers: who is done, what each saw in that order, who wrote each item last. Old memory stays as it was.
  Conditions: there are at most six deals, 1 to 6, each once; what each saw and wrote is short; it wrote items 1 to 6.
-/
import Derived.Test.YtccjognnehoodagGreatDoorRefOut
import Derived.Test.YtccjognnehoodagGreatDoorMgbs
import Derived.Deep.CutBlock
namespace Go.Proofs.YtccjognnehoodagGreatDoor
open Go.RowKit

theorem infoDealN : (Tryz.prog.info? 50).map (fun i => (i.zero, i.size, i.bytes)) = some (some (.agg #[.int .i64 0, .int .i64 0, .int .i64 0, .slice none 0 0, .slice none 0 0]), 5, 72) := by kernel_rfl
/-- Deals by their numbers, as far as these have been gone over. -/
def ordTo (ds : List Int) : Nat → List Int
  | 0 => []
  | n + 1 => ordTo ds n ++ ds.filter fun t => t == (n : Int) + 1
theorem filter_one {ds : List Int} (hn : ds.Nodup) (x : Int) : (ds.filter fun t => t == x) = if inB ds x = true then [x] else [] := by
  induction ds with
  | nil => simp [inB]
  | cons a r ih =>
    have h := List.nodup_cons.1 hn
    rw [List.filter_cons]
    by_cases e : a = x
    · subst e
      have h0 : (r.filter fun t => t == a) = [] := List.filter_eq_nil_iff.2 fun y hy => by
        simp
        exact fun e2 => h.1 (e2 ▸ hy)
      simp [h0, inB]
    · have h1 : (a == x) = false := by simpa using e
      have h2 : inB (a :: r) x = inB r x := by unfold inB; simp [Ne.symm e]
      rw [h1, ih h.2, h2]
      rfl
theorem ordTo_num {ds : List Int} (hn : ds.Nodup) : ordTo ds 6 = byNum ds := by
  unfold byNum
  simp only [ordTo, filter_one hn, show ((0 : Nat) : Int) + 1 = 1 from rfl, show ((1 : Nat) : Int) + 1 = 2 from rfl, show ((2 : Nat) : Int) + 1 = 3 from rfl, show ((3 : Nat) : Int) + 1 = 4 from rfl, show ((4 : Nat) : Int) + 1 = 5 from rfl, show ((5 : Nat) : Int) + 1 = 6 from rfl]
  simp only [List.nil_append, List.filter_cons, List.filter_nil]
  cases inB ds 1 <;> cases inB ds 2 <;> cases inB ds 3 <;> cases inB ds 4 <;> cases inB ds 5 <;> cases inB ds 6 <;> rfl
theorem filter_six {ds : List Int} (hn : ds.Nodup) (x : Int) (i : Nat) : ((ds.take i).filter fun t => t == x).length ≤ 1 := by
  rw [filter_one (hn.sublist (List.take_sublist _ _))]
  split <;> simp
theorem ordTo_len {ds : List Int} (hn : ds.Nodup) : ∀ n, (ordTo ds n).length ≤ n := by
  intro n
  induction n with
  | zero => simp [ordTo]
  | succ n ih =>
    rw [ordTo, List.length_append]
    have := filter_six hn ((n : Int) + 1) ds.length
    rw [List.take_length] at this
    omega
/-- The deals with their rows by name. -/
theorem deals_named {w : World} {v : Value} {ds : List Int} {of : Int → Dl} (h : IsDeals w v ds of) (hn : ds.Nodup) : ∃ (ad : Option Addr) (b off cap : Nat) (svF wvF : Int → Value), v = .slice ad ds.length cap ∧ (0 < ds.length → ad = some ⟨b, off, none⟩ ∧ b < w.heap.size) ∧ ∀ i, i < ds.length → DlIs w (of (ds.getD i 0)) (svF (ds.getD i 0)) (wvF (ds.getD i 0)) ∧
    w.cell? ⟨b, off + i * 5, none⟩ = some (.int .i64 (ds.getD i 0)) ∧ w.cell? ⟨b, off + i * 5 + 1, none⟩ = some (.int .i64 (of (ds.getD i 0)).began) ∧ w.cell? ⟨b, off + i * 5 + 2, none⟩ = some (.int .i64 (of (ds.getD i 0)).ended) ∧ w.cell? ⟨b, off + i * 5 + 3, none⟩ = some (svF (ds.getD i 0)) ∧ w.cell? ⟨b, off + i * 5 + 4, none⟩ = some (wvF (ds.getD i 0)) := by
  obtain ⟨ad, b, off, cap, hv, ha, hbB, hc⟩ := h
  have hc' : ∀ i, ∃ p : Value × Value, i < ds.length → DlIs w (of (ds.getD i 0)) p.1 p.2 ∧ w.cell? ⟨b, off + i * 5, none⟩ = some (.int .i64 (ds.getD i 0)) ∧ w.cell? ⟨b, off + i * 5 + 1, none⟩ = some (.int .i64 (of (ds.getD i 0)).began) ∧ w.cell? ⟨b, off + i * 5 + 2, none⟩ = some (.int .i64 (of (ds.getD i 0)).ended) ∧ w.cell? ⟨b, off + i * 5 + 3, none⟩ = some p.1 ∧ w.cell? ⟨b, off + i * 5 + 4, none⟩ = some p.2 := fun i => by
    by_cases hi : i < ds.length
    · obtain ⟨sv, wv, h1, h2, h3, h4, h5, h6⟩ := hc i hi
      exact ⟨(sv, wv), fun _ => ⟨h1, h2, h3, h4, h5, h6⟩⟩
    · exact ⟨(.slice none 0 0, .slice none 0 0), fun h => absurd h hi⟩
  obtain ⟨F, hF⟩ := Classical.axiomOfChoice hc'
  refine ⟨ad, b, off, cap, fun t => (F ((posL ds t).getD 0)).1, fun t => (F ((posL ds t).getD 0)).2, hv, fun hp => ⟨ha hp, ?_⟩, fun i hi => ?_⟩
  · rcases hbB with h | h
    · exact h
    · subst h; simp at hp
  · have hmem : ds.getD i 0 ∈ ds := by rw [List.getD_eq_getElem?_getD, List.getElem?_eq_getElem hi]; exact List.getElem_mem _
    have hps : (posL ds (ds.getD i 0)).isSome = true := (posL_some ds _).2 hmem
    obtain ⟨k, hk⟩ := Option.isSome_iff_exists.1 hps
    have h1 := posL_at hk
    have hki : k = i := nodupI_at hn h1 (by simp [List.getD, hi])
    show DlIs w _ (F ((posL ds (ds.getD i 0)).getD 0)).1 (F ((posL ds (ds.getD i 0)).getD 0)).2 ∧ _ ∧ _ ∧ _ ∧ _ = some (F ((posL ds (ds.getD i 0)).getD 0)).1 ∧ _ = some (F ((posL ds (ds.getD i 0)).getD 0)).2
    rw [hk, Option.getD_some, hki]
    exact hF i hi
def stF (of : Int → Dl) : Kst := { kst0 with of := of }
def layF (svF wvF : Int → Value) : KLay := ⟨0, 0, .slice none 0 0, .slice none 0 0, svF, wvF⟩
set_option maxHeartbeats 16000000 in
set_option maxRecDepth 1000000 in
theorem num_blk {K : Act → World → Prop} {Q' : Exit → Act → World → Prop} {c1 c2 c3 c4 c7 c8 c9 c10 c11 c12 c13 c14 c15 c16 c17 c18 c19 c20 c21 c22 c23 c24 c25 c26 c27 c28 c29 c30 c31 c32 c33 c34 c35 c36 c37 c38 c39 c40 c41 c42 c43 c44 c45 c46 c47 c48 c49 c50 c51 c52 c53 c54 c55 c56 c57 c58 c59 c60 c61 c62 c63 c64 c65 c66 c67 c68 c69 c70 c71 c72 c73 c74 c75 c76 c77 c78 c79 c80 c81 c82 c83 c84 c85 c86 c87 c88 c89 c90 c91 : Value} {B : World} {ds : List Int} {of : Int → Dl} {ad : Option Addr} {b off cap : Nat} {svF wvF : Int → Value} (hn : ds.Nodup) (hl6 : ds.length ≤ 6)
    (hin : ∀ W, Below B.heap.size B W → ∀ i, i < ds.length → ad = some ⟨b, off, none⟩ ∧ (∃ x y z, svF (ds.getD i 0) = .slice x y z) ∧ (∃ x y z, wvF (ds.getD i 0) = .slice x y z) ∧ W.cell? ⟨b, off + i * 5, none⟩ = some (.int .i64 (ds.getD i 0)) ∧ W.cell? ⟨b, off + i * 5 + 1, none⟩ = some (.int .i64 (of (ds.getD i 0)).began) ∧ W.cell? ⟨b, off + i * 5 + 2, none⟩ = some (.int .i64 (of (ds.getD i 0)).ended) ∧ W.cell? ⟨b, off + i * 5 + 3, none⟩ = some (svF (ds.getD i 0)) ∧ W.cell? ⟨b, off + i * 5 + 4, none⟩ = some (wvF (ds.getD i 0)))
    (hK : ∀ (u6 u7 u12 u13 u14 u15 u16 u17 u18 u19 u20 u21 u22 u23 u24 u25 u26 u27 u28 u29 u30 u31 u32 u33 u34 u35 : Value) (X : World) (da : Option Addr) (dn dc : Nat), X.ownsRow B.heap.size 50 5 (.slice da dn dc) (ordTo ds 6).length (flatD (stF of) (layF svF wvF) (ordTo ds 6)) → Below B.heap.size B X → K ⟨#[.slice ad ds.length cap, c1, c2, c3, c4, .slice da dn dc, u6, u7, c8, c9, c10, c11, u12, u13, u14, u15, u16, u17, u18, u19, u20, u21, u22, u23, u24, u25, u26, u27, u28, u29, u30, u31, u32, u33, u34, u35, c36, c37, c38, c39, c40, c41, c42, c43, c44, c45, c46, c47, c48, c49, c50, c51, c52, c53, c54, c55, c56, c57, c58, c59, c60, c61, c62, c63, c64, c65, c66, c67, c68, c69, c70, c71, c72, c73, c74, c75, c76, c77, c78, c79, c80, c81, c82, c83, c84, c85, c86, c87, c88, c89, c90, c91], []⟩ X) :
    Code.wp Tryz.prog ((Tryz.f31.body.bind (blkIn 0)).getD .skip) (Exit.then K Q') ⟨#[.slice ad ds.length cap, c1, c2, c3, c4, .slice none 0 0, .int .i64 1, c7, c8, c9, c10, c11, c12, c13, c14, c15, c16, c17, c18, c19, c20, c21, c22, c23, c24, c25, c26, c27, c28, c29, c30, c31, c32, c33, c34, c35, c36, c37, c38, c39, c40, c41, c42, c43, c44, c45, c46, c47, c48, c49, c50, c51, c52, c53, c54, c55, c56, c57, c58, c59, c60, c61, c62, c63, c64, c65, c66, c67, c68, c69, c70, c71, c72, c73, c74, c75, c76, c77, c78, c79, c80, c81, c82, c83, c84, c85, c86, c87, c88, c89, c90, c91], []⟩ B := by
  conv => arg 2; whnf
  have HK := hid_u hK
  have HIN := hid_u hin
  have HN := hid_u hn
  obtain ⟨d00, hi, hz0, hs0, hy0⟩ := info_parts infoDealN
  have HDI : Hid (Tryz.prog.info? 50 = some d00 ∧ d00.zero = some (.agg #[.int .i64 0, .int .i64 0, .int .i64 0, .slice none 0 0, .slice none 0 0]) ∧ d00.size = 5 ∧ d00.bytes = 72) := ⟨hi, hz0, hs0, hy0⟩
  clear hK hin hn hi hz0 hs0 hy0
  go_wp2_with fail
  go_loopw [5, 6, 7] (fun v5 v6 _ wr => ∃ n : Nat, n ≤ 6 ∧ v6 = .int .i64 ((n : Int) + 1) ∧ wr.ownsRow B.heap.size 50 5 v5 (ordTo ds n).length (flatD (stF of) (layF svF wvF) (ordTo ds n)) ∧ Below B.heap.size B wr) (fun _ v6 _ _ => 7 - (intOf v6).toNat)
  case atStart => exact ⟨0, by omega, rfl, World.ownsRow_nil _ _ _ _, Below.refl _ _⟩
  case round =>
    obtain ⟨n, hn6, rfl, hrow, hbel⟩ := hrel
    obtain ⟨ad5, c5', hv5, -⟩ := own_slice3 hrow
    subst hv5
    have HRW := hid_u hrow
    have HBL := hid_u hbel
    clear hrow hbel
    by_cases hlt : n < 6
    · have hlt' : (n : Int) + 1 ≤ 6 := by omega
      have hS0 : Hid (wr.ownsRow B.heap.size 50 5 (.slice ad5 (ordTo ds n).length c5') (ordTo ds n ++ (ds.take 0).filter fun t => t == (n : Int) + 1).length (flatD (stF of) (layF svF wvF) (ordTo ds n ++ (ds.take 0).filter fun t => t == (n : Int) + 1))) := by show World.ownsRow _ _ _ _ _ _ _; rw [List.take_zero, List.filter_nil, List.append_nil]; exact HRW.out
      go_wp2_with fail
      go_loopw [5, 7] (fun v5 v7 wr => ∃ i : Nat, i ≤ ds.length ∧ v7 = .int .i64 i ∧ wr.ownsRow B.heap.size 50 5 v5 (ordTo ds n ++ (ds.take i).filter fun t => t == (n : Int) + 1).length (flatD (stF of) (layF svF wvF) (ordTo ds n ++ (ds.take i).filter fun t => t == (n : Int) + 1)) ∧ Below B.heap.size B wr) (fun _ v7 _ => ds.length - (intOf v7).toNat)
      case atStart => exact ⟨0, Nat.zero_le _, rfl, hS0.out, HBL.out⟩
      case round =>
        obtain ⟨i, hi, rfl, hrw, hbw⟩ := hrel
        obtain ⟨ad6, c6', hv6, -⟩ := own_slice3 hrw
        subst hv6
        have HR2 := hid_u hrw
        have HB2 := hid_u hbw
        clear hrw hbw hS0
        by_cases hlt2 : i < ds.length
        · have hlt2' : (i : Int) < (ds.length : Int) := by omega
          have hi0 : (0 : Int) ≤ (i : Int) := by omega
          have hin' : ¬ (i : Int) < 0 := by omega
          obtain ⟨rfl, ⟨sx, sy, sz, hsF⟩, ⟨wx, wy, wz, hwF⟩, k0, k1, k2, k3, k4⟩ := HIN.out wr HB2.out i hlt2
          obtain ⟨t, ht⟩ : ∃ t, ds.getD i 0 = t := ⟨_, rfl⟩
          rw [ht] at k0 k1 k2 k3 k4 hsF hwF
          rw [hsF] at k3
          rw [hwF] at k4
          have HFL : Hid (flatD (stF of) (layF svF wvF) [t] = [.int .i64 t, .int .i64 (of t).began, .int .i64 (of t).ended, .slice sx sy sz, .slice wx wy wz]) := by
            show _ = _
            unfold flatD layF stF
            simp [hsF, hwF]
          have HTK : Hid (ds.take (i + 1) = ds.take i ++ [t]) := by show _ = _; rw [takeS hlt2, ht]
          obtain ⟨bg, hbg⟩ : ∃ x, (of t).began = x := ⟨_, rfl⟩
          obtain ⟨ed, hed⟩ : ∃ x, (of t).ended = x := ⟨_, rfl⟩
          rw [hbg] at k1 HFL
          rw [hed] at k2 HFL
          obtain ⟨OL, hOL⟩ : ∃ x, (ordTo ds n ++ (ds.take i).filter fun t => t == (n : Int) + 1) = x := ⟨_, rfl⟩
          have hol : OL.length ≤ 12 := by
            rw [← hOL, List.length_append]
            have := ordTo_len HN.out n
            have := filter_six HN.out ((n : Int) + 1) i
            omega
          rw [hOL] at HR2 ⊢
          have hHN : Hid ((ordTo ds n ++ (ds.take (i + 1)).filter fun t => t == (n : Int) + 1) = OL ++ (if t = (n : Int) + 1 then [t] else [])) := by
            show _ = _
            rw [HTK.out, List.filter_append, ← List.append_assoc, hOL]
            congr 1
            by_cases e : t = (n : Int) + 1
            · simp [e]
            · simp [e]
          have hBs := HB2.out.size
          clear hsF hwF hbg hed ht hOL
          by_cases ht : t = (n : Int) + 1
          · have htb : (t == (n : Int) + 1) = true := by simpa using ht
            rw [if_pos ht] at hHN
            clear ht
            go_wp2_with (at_builtin; refine wpList_append_apart _ rfl (.tmp 29) (.tmp 34) 27 rfl B.heap.size 50 d00 (.agg #[.int .i64 0, .int .i64 0, .int .i64 0, .slice none 0 0, .slice none 0 0]) 5 72 Tryz.underlying27 HDI.out.1 HDI.out.2.1 HDI.out.2.2.1 HDI.out.2.2.2 rfl (by decide) (.slice ad6 OL.length c6') OL.length (flatD (stF of) (layF svF wvF) OL) rfl (HR2.out.alloc _) ⟨wr.heap.size, 0, none⟩ 1 1 [.int .i64 t, .int .i64 bg, .int .i64 ed, .slice sx sy sz, .slice wx wy wz] rfl rfl (deal_new wr _ _ _ _ _ _) (by simp [Value.oneCell']) (by unfold maxLen; omega) (by omega) (by simp; omega) ?_; intro v2 w2 hown2 hgr2 hap2)
            have hb9 := (HB2.out.alloc hBs _).grown hgr2 (by simp; omega) (fun m hm => (HR2.out.lt m hm).1)
            go_roundw
            case rel => exact ⟨i + 1, by omega, by go_num, by rw [hHN.out, flatD_append, List.length_append, HFL.out]; exact hown2, hb9⟩
            case measure => simp [intOf]; omega
          · have htb : (t == (n : Int) + 1) = false := by simpa using ht
            rw [if_neg ht, List.append_nil] at hHN
            clear ht
            go_wp2_with fail
            go_roundw
            case rel => exact ⟨i + 1, by omega, by go_num, by rw [hHN.out]; exact HR2.out, HB2.out⟩
            case measure => simp [intOf]; omega
        · have hlt2' : ¬ (i : Int) < (ds.length : Int) := by omega
          obtain rfl : i = ds.length := by omega
          have HFN : Hid (wr.ownsRow B.heap.size 50 5 (.slice ad6 (ordTo ds n ++ (ds.take ds.length).filter fun t => t == (n : Int) + 1).length c6') (ordTo ds (n + 1)).length (flatD (stF of) (layF svF wvF) (ordTo ds (n + 1)))) := by
            have h5 := HR2.out
            show World.ownsRow _ _ _ _ _ _ _
            rw [ordTo]
            rw [List.take_length] at h5 ⊢
            exact h5
          go_wp2_with fail
          go_roundw
          case rel => exact ⟨n + 1, by omega, by go_num, HFN.out, HB2.out⟩
          case measure => simp [intOf]; omega
    · have hlt' : ¬ (n : Int) + 1 ≤ 6 := by omega
      obtain rfl : n = 6 := by omega
      go_wp2_with fail
      exact HK.out _ _ _ _ _ _ _ _ _ _ _ _ _ _ _ _ _ _ _ _ _ _ _ _ _ _ _ _ _ _ HRW.out HBL.out
set_option maxHeartbeats 16000000 in
set_option maxRecDepth 1000000 in
theorem refOutN_any (ds : List Int) (of : Int → Dl) (v : Value) (w : World) (hI : IsDeals w v ds of) (hn : ds.Nodup) (hr : ∀ t ∈ ds, 1 ≤ t ∧ t ≤ 6) (hs40 : ∀ t, (of t).seen.length ≤ 40 ∧ (of t).wrote.length ≤ 40) (hwr : ∀ t, ∀ x ∈ (of t).wrote, 1 ≤ x ∧ x ≤ 6) :
    Calls Tryz.prog 31 #[v, .bool true] w fun e w' => ∃ a1 a2 a3, e = .returned (.agg #[a1, a2, a3]) ∧ IsInts w' a1 (byNum ds) ∧ IsOps w' a2 (seenL of (byNum ds)) ∧ IsInts w' a3 (lastL of (byNum ds)) ∧ Below w.heap.size w w' := by
  obtain ⟨B, hBe⟩ : ∃ B, B = w.alloc (.cells #[.slice none 0 0, .slice none 0 0, .slice none 0 0] 41) := ⟨_, rfl⟩
  have hbB : Below w.heap.size w B := by rw [hBe]; exact (Below.refl _ w).alloc (Nat.le_refl _) _
  obtain ⟨ad, b, off, cap, svF, wvF, hve, hab, hin⟩ := deals_named (hI.below hbB (Nat.le_refl _)) hn
  subst hve
  have hz : B.heap[w.heap.size]? = some (.cells #[.slice none 0 0, .slice none 0 0, .slice none 0 0] 41 (0, 0)) := by rw [hBe]; exact heap_alloc_new w _
  have HNB : Hid (∀ W, Below B.heap.size B W → ∀ i, i < ds.length → ad = some ⟨b, off, none⟩ ∧ (∃ x y z, svF (ds.getD i 0) = .slice x y z) ∧ (∃ x y z, wvF (ds.getD i 0) = .slice x y z) ∧ W.cell? ⟨b, off + i * 5, none⟩ = some (.int .i64 (ds.getD i 0)) ∧ W.cell? ⟨b, off + i * 5 + 1, none⟩ = some (.int .i64 (of (ds.getD i 0)).began) ∧ W.cell? ⟨b, off + i * 5 + 2, none⟩ = some (.int .i64 (of (ds.getD i 0)).ended) ∧ W.cell? ⟨b, off + i * 5 + 3, none⟩ = some (svF (ds.getD i 0)) ∧ W.cell? ⟨b, off + i * 5 + 4, none⟩ = some (wvF (ds.getD i 0))) := fun W hW i hi => by
    obtain ⟨h1, h2, h3, h4, h5, h6⟩ := hin i hi
    obtain ⟨hb1, hb2⟩ := hab (by omega)
    refine ⟨hb1, ?_, ?_, (hW.cell (p := ⟨b, off + i * 5, none⟩) hb2).trans h2, (hW.cell (p := ⟨b, off + i * 5 + 1, none⟩) hb2).trans h3, (hW.cell (p := ⟨b, off + i * 5 + 2, none⟩) hb2).trans h4, (hW.cell (p := ⟨b, off + i * 5 + 3, none⟩) hb2).trans h5, (hW.cell (p := ⟨b, off + i * 5 + 4, none⟩) hb2).trans h6⟩
    · obtain ⟨a, _, _, c, h, _⟩ := h1.seen; exact ⟨a, _, c, h⟩
    · obtain ⟨a, _, _, c, h, _⟩ := h1.wrote; exact ⟨a, _, c, h⟩
  have HDL : Hid (∀ W, Below B.heap.size B W → ∀ t ∈ ordTo ds 6, DlIs W ((stF of).of t) ((layF svF wvF).sv t) ((layF svF wvF).wv t)) := fun W hW t ht => by
    rw [ordTo_num hn] at ht
    have hm := (byNum_mem hr t).1 ht
    rw [List.mem_iff_getElem] at hm
    obtain ⟨i, hi, hit⟩ := hm
    have h1 := (hin i hi).1
    have h2 : ds.getD i 0 = t := by rw [← hit]; simp [List.getD, List.getElem?_eq_getElem hi]
    rw [h2] at h1
    exact h1.below hW (Nat.le_refl _)
  have HL6 : Hid ((byNum ds).length ≤ 6) := byNum_len ds
  have HON : Hid (ordTo ds 6 = byNum ds) := ordTo_num hn
  have HW40 := hid_u hs40
  have HWR := hid_u hwr
  have HN := hid_u hn
  have HD6 : Hid (ds.length ≤ 6) := six_len hn hr
  have HBB := hid_u hbB
  have HZZ := hid_u hz
  obtain ⟨j0, hj, hjz0, hjs0, hjy0⟩ := info_parts infoInt
  have HJ : Hid (Tryz.prog.info? 3 = some j0 ∧ j0.zero = some (.int .i64 0) ∧ j0.size = 1 ∧ j0.bytes = 8) := ⟨hj, hjz0, hjs0, hjy0⟩
  have HZW : Hid (w.heap.size ≤ w.heap.size) := Nat.le_refl _
  clear hin hs40 hwr hI hn hr hab hj hjz0 hjs0 hjy0 hbB hz
  go_enter Tryz.func31, Tryz.ntmps31
  go_upto_region 2 with (fail)
  rw [← hBe]
  obtain ⟨Z, hZ⟩ : ∃ Z, Z = w.heap.size := ⟨_, rfl⟩
  rw [← hZ] at HZZ ⊢
  replace HZW : Hid (w.heap.size ≤ Z) := by show _ ≤ _; omega
  clear hBe hZ
  go_upto_block 0 with (fail)
  refine num_blk HN.out HD6.out HNB.out ?_
  intro u6 u7 u12 u13 u14 u15 u16 u17 u18 u19 u20 u21 u22 u23 u24 u25 u26 u27 u28 u29 u30 u31 u32 u33 u34 u35 Y da dn dc hrow hbY
  rw [HON.out] at hrow
  have hdl : IsDeals Y (.slice da dn dc) (byNum ds) of := deals_of_row (s := stF of) (c := layF svF wvF) hrow fun t ht => HDL.out Y hbY t (by rw [HON.out]; exact ht)
  obtain ⟨ad2, b2, off2, cap2, hve2, hin2⟩ := deals_in hdl
  have HIN := hid_u hin2
  have HBY : Hid (Below w.heap.size w Y) := HBB.out.trans (hbY.mono HBB.out.size)
  have HZY : Hid (Y.heap[Z]? = some (.cells #[.slice none 0 0, .slice none 0 0, .slice none 0 0] 41 (0, 0))) := (hbY.block Z (Array.getElem?_eq_some_iff.1 HZZ.out).1).trans HZZ.out
  simp only [Value.slice.injEq] at hve2
  obtain ⟨rfl, rfl, rfl⟩ := hve2
  clear hrow hbY hdl hin2 HNB HDL
  go_upto_region 13 with (at_make; refine wpList_make_full _ rfl (.const (.int .i64 6)) (.const (.int .i64 6)) 25 rfl Y.heap.size 3 j0 (.int .i64 0) 1 Tryz.underlying25 HJ.out.1 HJ.out.2.1 HJ.out.2.2.1 .i64 .i64 6 6 6 rfl rfl rfl rfl (by rw [HJ.out.2.2.2]; omega) (by unfold maxLen; omega) (Nat.le_refl _) ?_; intro w1 hown1 hgr1)
  have HST := hid_u (out_start (of := of) HZY.out hown1 hgr1)
  obtain ⟨W0, hW0⟩ : ∃ W, W = w1.alloc (.cells #[.slice none 0 0, .slice none 0 0, .slice (some ⟨Y.heap.size, 0, none⟩) 6 6] 41) := ⟨_, rfl⟩
  rw [← hW0] at HST ⊢
  obtain ⟨L, hL⟩ : ∃ L, L = Y.heap.size := ⟨_, rfl⟩
  obtain ⟨U, hU⟩ : ∃ U, U = w1.heap.size := ⟨_, rfl⟩
  rw [← hL, ← hU] at HST ⊢
  clear hown1 hgr1 hW0 hL hU
  go_upto_block 4 with (fail)
  refine out_blk HIN.out HL6.out HW40.out HWR.out HST.out ?_
  intro x9 x10 x39 x40 x41 x42 x43 x44 x45 x46 x47 x48 x49 x50 x51 x52 x53 x54 x55 x56 x57 x58 x59 x60 x61 x62 x63 x64 x65 x66 x67 x68 x69 x70 x71 x72 x73 x74 x75 x76 x77 x78 x79 x80 x81 x82 x83 x84 x85 x86 x87 x88 x89 x90 dv sv X hX
  have HOU := hid_u hX
  clear hX
  obtain ⟨HRE0, HFI0, ⟨z0, z1, z2⟩, y⟩ := out_fin HOU.out HBY.out HZW.out
  have HRE := hid_u HRE0
  have HFI := hid_u HFI0
  obtain ⟨q0, q1, q2⟩ := HOU.out.cells
  have y0 := y 0
  have y1 := y 1
  have y2 := y 2
  obtain ⟨adD, cD, eD, -⟩ := own_slice3 HOU.out.done
  obtain ⟨adS, cS, eS, -⟩ := own_slice3 HOU.out.seen
  subst eD
  subst eS
  clear HRE0 HFI0 y
  go_wp2_with fail
  refine bodyPost_ret (v := .agg #[.slice adD (byNum ds).length cD, .slice adS (seenL of (byNum ds)).length cS, .slice (some ⟨L, 0, none⟩) 6 6]) (results_cell_row Tryz.results31 _ _ Z 41 #[.slice adD (byNum ds).length cD, .slice adS (seenL of (byNum ds)).length cS, .slice (some ⟨L, 0, none⟩) 6 6] (0, 0) _ rfl HRE.out Tryz.underlying41 rfl outcome_info) rfl ⟨_, _, _, rfl, HFI.out.1, HFI.out.2.1, HFI.out.2.2.1, HFI.out.2.2.2⟩
theorem refOutCN : RefOutC true := fun ds of v w hI hn hr hs hw => refOutN_any ds of v w hI hn hr hs hw
end Go.Proofs.YtccjognnehoodagGreatDoor
