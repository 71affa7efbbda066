/-
  PROVED HERE: package ills: whether an op ends a deal; a list of ops from a place to another one; the pairs of ops at odds of which the earlier one's deal has not ended by the later one. Old memory stays as it was.
  Conditions: the history is right; the slice is no longer than its capacity.
-/
import Derived.Test.YtjcaekhkeobhpahDoorIllOpenP
import Derived.Test.YtjcaekhkeobhpahDoorOpIdx
import Derived.Test.YtjcaekhkeobhpahDoorEdgeDel
import Derived.Test.YtjcaekhkeobhpahDoorOddPairs
import Derived.Test.YtjcaekhkeobhpahDoorRegion
import Derived.Deep.Cut
import Derived.Deep.RegionHeld3
namespace Go.Proofs.YtjcaekhkeobhpahDoor
open Go.RowKit

theorem hid_e {p : Prop} (h : p) : Hid p := h
theorem call_end1 : ∀ (args : Array Value) (W : World), (callFunc 50 args).run Tryd.prog W = .ok (.enter 50 args) W := fun args W => by kernel_rfl
theorem call_gone : ∀ (args : Array Value) (W : World), (callFunc 38 args).run Tryd.prog W = .ok (.enter 38 args) W := fun args W => by kernel_rfl
theorem end1_fn (o : Op3) (t : Int) (P : Nat) (w : World) (k : w.cell? ⟨P, 0, none⟩ = some (.int .i64 t)) :
    Calls Tryd.prog 50 (#[opV o] ++ #[.pointer (some ⟨P, 0, none⟩)]) w fun e w' => e = .returned (.bool (o.1 == t && endsB o.2.1)) ∧ Below w.heap.size w w' := by
  obtain ⟨a, b, i⟩ := o
  have l1 := World.block_lt_of_cell? w _ k
  unfold opV
  simp only at l1
  cases h1 : (a == t) with
  | false =>
    go_enter Tryd.func50, Tryd.ntmps50
    go_wp2_with fail
    go_ret
    exact ⟨ret_bool (by simp), (Below.refl _ w).alloc (Nat.le_refl _) _⟩
  | true =>
    cases h2 : (b == 3) with
    | true =>
      go_enter Tryd.func50, Tryd.ntmps50
      go_wp2_with fail
      go_ret
      exact ⟨ret_bool (by simp [h2, endsB]), (Below.refl _ w).alloc (Nat.le_refl _) _⟩
    | false =>
      cases h3 : (b == 4) with
      | true =>
        go_enter Tryd.func50, Tryd.ntmps50
        go_wp2_with fail
        go_ret
        exact ⟨ret_bool (by simp [h2, h3, endsB]), (Below.refl _ w).alloc (Nat.le_refl _) _⟩
      | false =>
        go_enter Tryd.func50, Tryd.ntmps50
        go_wp2_with fail
        go_ret
        exact ⟨ret_bool (by simp [h2, h3, endsB]), (Below.refl _ w).alloc (Nat.le_refl _) _⟩
theorem iEnd_any (t : Int) (w : World) : Calls Tryd.prog 40 #[.int .i64 t] w fun e w' => e = .returned (.func (.func 50) #[] #[.pointer (some ⟨w.heap.size, 0, none⟩)]) ∧ w'.cell? ⟨w.heap.size, 0, none⟩ = some (.int .i64 t) ∧ Below w.heap.size w w' := by
  go_enter Tryd.func40, Tryd.ntmps40
  go_wp2
  all_goals go_ret
  all_goals exact ⟨rfl, by simp, (Below.refl _ w).alloc (Nat.le_refl _) _⟩
theorem iEnd_later (t : Int) (w W : World) (hW : Below w.heap.size w W) : Calls Tryd.prog 40 #[.int .i64 t] W fun e w' => ∃ P : Nat, e = .returned (.func (.func 50) #[] #[.pointer (some ⟨P, 0, none⟩)]) ∧ w'.cell? ⟨P, 0, none⟩ = some (.int .i64 t) ∧ Below w.heap.size w w' :=
  (iEnd_any t W).mono fun _ _ ⟨h1, h2, h3⟩ => ⟨_, h1, h2, hW.trans (h3.mono hW.size)⟩
theorem elem_opsE : Tryd.prog.underlying 22 = some (.slice (Tryd.prog.elem 22)) := by kernel_rfl
theorem size_opE (W : World) : (sizeOf (Tryd.prog.elem 22)).run Tryd.prog W = .ok 3 W := by kernel_rfl
theorem isOps_mid {w : World} {b off c i n : Nat} {l : List Op3} (h : OpsAt w b off l) (hb : b < w.heap.size) (hin : i + n ≤ l.length) (A : Option Addr) (hA : 0 < n → A = some ⟨b, off + i * 3, none⟩) (hA0 : A ≠ none) : IsOps w (.slice A n c) ((l.drop i).take n) := by
  have hlen : ((l.drop i).take n).length = n := by rw [List.length_take, List.length_drop]; omega
  refine ⟨A, b, off + i * 3, c, by rw [hlen], fun hp => hA (by omega), fun h0 => absurd h0 hA0, .inl hb, fun k hk => ?_⟩
  rw [hlen] at hk
  have := h (i + k) (by omega)
  have e : ((l.drop i).take n).getD k (0, 0, 0) = l.getD (i + k) (0, 0, 0) := by simp [List.getD, hk]
  rw [e, show off + i * 3 + k * 3 = off + (i + k) * 3 by omega]
  exact this
/-- A list of ops from a place to another one. -/
theorem cut_mid {w : World} {b off cap i j : Nat} {l : List Op3} (h : OpsAt w b off l) (hb : b < w.heap.size) (hcap : l.length ≤ cap) (hij : i ≤ j) (hj : j ≤ l.length) :
    ∃ A c, (∀ W, (Instr.sliceAt 22 (.slice (some ⟨b, off, none⟩) l.length cap) (some (.int .i64 (i : Int))) (some (.int .i64 (j : Int))) none).run Tryd.prog W = .ok (.slice A (j - i) c) W) ∧ IsOps w (.slice A (j - i) c) ((l.drop i).take (j - i)) := by
  refine ⟨if cap = i then some ⟨b, off, none⟩ else some ⟨b, off + i * 3, none⟩, cap - i, fun W => ?_, isOps_mid h hb (by omega) _ (fun hp => by rw [if_neg (by omega)]) (by split <;> simp)⟩
  rw [run_sliceAt_slice W _ _ _ _ _ elem_opsE, run_slice_lh W _ _ _ _ elem_opsE _ _ _ _ (by omega) (by omega) (by omega), size_opE]
  simp [Result.andThen, sliced, Addr.add]
  split
  · rfl
  · by_cases h0 : i * 3 = 0
    · rw [if_pos h0, h0]; rfl
    · rw [if_neg h0]
/-- A list of ops from a place on. -/
theorem cut_on {w : World} {b off cap i : Nat} {l : List Op3} (h : OpsAt w b off l) (hb : b < w.heap.size) (hcap : l.length ≤ cap) (hi : i ≤ l.length) :
    ∃ A c, (∀ W, (Instr.sliceAt 22 (.slice (some ⟨b, off, none⟩) l.length cap) (some (.int .i64 (i : Int))) none none).run Tryd.prog W = .ok (.slice A (l.length - i) c) W) ∧ IsOps w (.slice A (l.length - i) c) (l.drop i) := by
  have h1 := isOps_mid (c := cap - i) (i := i) (n := l.length - i) h hb (by omega) (if cap = i then some ⟨b, off, none⟩ else some ⟨b, off + i * 3, none⟩) (fun hp => by rw [if_neg (by omega)]) (by split <;> simp)
  rw [List.take_of_length_le (by rw [List.length_drop]; omega)] at h1
  refine ⟨if cap = i then some ⟨b, off, none⟩ else some ⟨b, off + i * 3, none⟩, cap - i, fun W => ?_, h1⟩
  rw [run_sliceAt_slice W _ _ _ _ _ elem_opsE, run_slice_l W _ _ _ _ elem_opsE _ _ (by omega) (by omega), size_opE]
  simp [Result.andThen, sliced, Addr.add]
  split
  · rfl
  · by_cases h0 : i * 3 = 0
    · rw [if_pos h0, h0]; rfl
    · rw [if_neg h0]
theorem ops_open {w : World} {ad : Option Addr} {cap : Nat} {l : List Op3} (h : IsOps w (.slice ad l.length cap) l) (hp : 0 < l.length) : ∃ b off, ad = some ⟨b, off, none⟩ ∧ b < w.heap.size ∧ OpsAt w b off l := by
  obtain ⟨ad', b, off, cap', hv, ha, hn, hbB, hops⟩ := h
  simp only [Value.slice.injEq] at hv
  obtain ⟨rfl, _, rfl⟩ := hv
  refine ⟨b, off, ha hp, ?_, hops⟩
  rcases hbB with h | h
  · exact h
  · rw [h] at hp; simp at hp
set_option maxHeartbeats 8000000 in
theorem gone_fn (l : List Op3) (ad : Option Addr) (cap i j H : Nat) (w : World) (hI : IsOps w (.slice ad l.length cap) l) (hcap : l.length ≤ cap) (hl : l.length ≤ 40) (hij : i < j) (hj : j < l.length) (k : w.cell? ⟨H, 0, none⟩ = some (.slice ad l.length cap)) :
    Calls Tryd.prog 38 (#[.agg #[.int .i64 (i : Int), .int .i64 (j : Int)]] ++ #[.pointer (some ⟨H, 0, none⟩)]) w fun e w' => e = .returned (.bool (goneE l ((i : Int), (j : Int)))) ∧ Below w.heap.size w w' := by
  obtain ⟨b, off, rfl, hb, hops⟩ := ops_open hI (by omega)
  obtain ⟨A, c, hrun, hmid⟩ := cut_mid hops hb hcap (Nat.le_of_lt hij) (Nat.le_of_lt hj)
  obtain ⟨c0, -, -⟩ := hops i (by omega)
  obtain ⟨t, ht⟩ : ∃ t, (opAt l i).1 = t := ⟨_, rfl⟩
  have c0' : w.cell? ⟨b, off + i * 3, none⟩ = some (.int .i64 t) := by rw [← ht]; exact c0
  have HG : Hid (goneE l ((i : Int), (j : Int)) = ((l.drop i).take (j - i)).any fun o => o.1 == t && endsB o.2.1) := by
    show goneE _ _ = _
    unfold goneE endsIn
    simp only [Int.toNat_natCast, ht]
  obtain ⟨g, hg⟩ : ∃ g, ((l.drop i).take (j - i)).any (fun o => o.1 == t && endsB o.2.1) = g := ⟨_, rfl⟩
  obtain ⟨ms, hms⟩ : ∃ ms, (l.drop i).take (j - i) = ms := ⟨_, rfl⟩
  have hml : ms.length ≤ 40 := by rw [← hms, List.length_take, List.length_drop]; omega
  obtain ⟨n, hn⟩ : ∃ n, l.length = n := ⟨_, rfl⟩
  obtain ⟨d, hd⟩ : ∃ d, j - i = d := ⟨_, rfl⟩
  rw [hms] at hg hmid HG
  rw [hg] at HG
  rw [hn] at hrun k hj
  rw [hd] at hrun hmid
  have HMID : Hid (∀ V, Below w.heap.size w V → IsOps V (.slice A d c) ms) := fun V hV => hmid.below hV (Nat.le_refl _)
  have HB0 := hid_e hb
  have hkl := World.block_lt_of_cell? w _ k
  simp only at hkl
  have hin : (i : Int) < (n : Int) := by omega
  have HGN := hid_e hg
  have HML := hid_e hml
  clear c0 hops hI hmid ht hms hn hd hcap hl hg hml
  go_enter Tryd.func38, Tryd.ntmps38
  go_upto_region 1 with (fail)
  obtain ⟨W, hW⟩ : ∃ W, W = w.alloc (.cells #[.int .i64 (i : Int), .int .i64 (j : Int)] 55) := ⟨_, rfl⟩
  rw [← hW]
  have hbW : Below w.heap.size w W := by rw [hW]; exact (Below.refl _ w).alloc (Nat.le_refl _) _
  have p0 : W.cell? ⟨w.heap.size, 0, none⟩ = some (.int .i64 (i : Int)) := by rw [hW]; simp
  have p1 : W.cell? ⟨w.heap.size, 1, none⟩ = some (.int .i64 (j : Int)) := by rw [hW]; simp
  obtain ⟨P, hP⟩ : ∃ P, P = w.heap.size := ⟨_, rfl⟩
  have HPW : Hid (P < W.heap.size) := by show P < _; rw [hP]; exact World.block_lt_of_cell? W _ p0
  rw [← hP] at p0 p1 ⊢
  have k1 := (hbW.cell (p := ⟨H, 0, none⟩) hkl).trans k
  have d0 := (hbW.cell (p := ⟨b, off + i * 3, none⟩) HB0.out).trans c0'
  have HBW := hid_e hbW
  have HHL : Hid (H < w.heap.size) := hkl
  have HKC : Hid (∀ V, Below W.heap.size W V → V.cell? ⟨H, 0, none⟩ = some (.slice (some ⟨b, off, none⟩) n cap) ∧ V.cell? ⟨P, 0, none⟩ = some (.int .i64 (i : Int)) ∧ V.cell? ⟨P, 1, none⟩ = some (.int .i64 (j : Int)) ∧ V.cell? ⟨b, off + i * 3, none⟩ = some (.int .i64 t)) := fun V hV =>
    ⟨(hV.cell (p := ⟨H, 0, none⟩) (Nat.lt_of_lt_of_le HHL.out HBW.out.size)).trans k1, (hV.cell (p := ⟨P, 0, none⟩) HPW.out).trans p0, (hV.cell (p := ⟨P, 1, none⟩) HPW.out).trans p1, (hV.cell (p := ⟨b, off + i * 3, none⟩) (Nat.lt_of_lt_of_le HB0.out HBW.out.size)).trans d0⟩
  have HOF : Hid (Calls Tryd.prog 40 #[.int .i64 t] W.drew fun e w' => ∃ P2 : Nat, e = .returned (.func (.func 50) #[] #[.pointer (some ⟨P2, 0, none⟩)]) ∧ w'.cell? ⟨P2, 0, none⟩ = some (.int .i64 t) ∧ Below W.heap.size W w') := iEnd_later t W W.drew (Below.refl _ W).drew
  have HCF : Hid (∀ (V : World) (P2 : Nat), Below W.heap.size W V → V.cell? ⟨P2, 0, none⟩ = some (.int .i64 t) → Calls Tryd.prog 39 #[.slice A d c, .func (.func 50) #[] #[.pointer (some ⟨P2, 0, none⟩)]] V fun r w' => r = .returned (.bool g) ∧ Below W.heap.size W w') := fun V P2 hV hc => by
    have h1 := contains_opC ms (.slice A d c) (fun o => o.1 == t && endsB o.2.1) 50 #[.pointer (some ⟨P2, 0, none⟩)] V call_end1 (HMID.out V (HBW.out.trans (hV.mono HBW.out.size))) (by have := HML.out; omega) (fun W2 hW2 e _ => end1_fn e t P2 W2 ((hW2.cell (p := ⟨P2, 0, none⟩) (World.block_lt_of_cell? V _ hc)).trans hc))
    rw [HGN.out] at h1
    exact h1.mono fun _ _ ⟨h2, h3⟩ => ⟨h2, hV.trans (h3.mono hV.size)⟩
  clear hW hbW hP c0' k hkl hb hij hj HHL HMID HGN HML
  go_region_held3 (fun w' => w'.cell? ⟨H, 0, none⟩ = some (.slice (some ⟨b, off, none⟩) n cap) ∧ w'.cell? ⟨P, 0, none⟩ = some (.int .i64 (i : Int)) ∧ w'.cell? ⟨P, 1, none⟩ = some (.int .i64 (j : Int)) ∧ w'.cell? ⟨b, off + i * 3, none⟩ = some (.int .i64 t)) (first | exact ⟨kd0, kd1, kd2, kd3⟩ | exact ⟨ke0, ke1, ke2, ke3⟩ | exact ⟨k1, p0, p1, d0⟩) (first | (go_at_call 40; refine HOF.out.mono ?_; rintro e w2 ⟨P2, rfl, hc2, hb2⟩; obtain ⟨ke0, ke1, ke2, ke3⟩ := HKC.out w2 hb2) | (go_at_call 39; refine (HCF.out _ _ hb2 hc2).mono ?_; rintro e w3 ⟨rfl, hb3⟩; obtain ⟨kd0, kd1, kd2, kd3⟩ := HKC.out w3 hb3))
  all_goals
    have HB3 : Hid (Below w.heap.size w w3) := HBW.out.trans (hb3.mono HBW.out.size)
    clear hb2 hc2 hb3 ke0 ke1 ke2 ke3 kd0 kd1 kd2 kd3
    go_wp2_with fail
    go_ret
    exact ⟨by rw [HG.out]; rfl, HB3.out⟩
theorem own_low {w : World} {base base' e size n : Nat} {v : Value} {xs : List Value} (h : w.ownsRow base e size v n xs) (hb : base' ≤ base) : w.ownsRow base' e size v n xs := by
  obtain ⟨hl, hd | ⟨g, cap, cur, hv, hbg, r⟩⟩ := h
  · exact ⟨hl, .inl hd⟩
  · exact ⟨hl, .inr ⟨g, cap, cur, hv, Nat.le_trans hb hbg, r⟩⟩
theorem pairs_okO (l : List Op3) (v : Value) (w : World) (h : IsOps w v l) (hc : (chk l).2 = 0) :
    Calls Tryd.prog 23 #[v] w fun e w' => ∃ v', e = .returned (.tuple #[v', .nilIface]) ∧ w'.ownsRow w.heap.size 55 2 v' (pairsL l).length (flatE (pairsL l)) ∧ Below w.heap.size w w' := by
  go_enter Tryd.func23, Tryd.ntmps23
  go_wp2_with (first | (go_at_call 44; refine (check_ok l _ _ h hc).mono ?_; rintro e w1 ⟨rfl, hb1⟩) | (go_at_call 45; refine (pairs_own l _ _ (h.below hb1 (Nat.le_refl _)) (chk_len hc)).mono ?_; rintro e w2 ⟨v2, rfl, hE2, hb2⟩))
  go_ret2
  exact ⟨_, rfl, own_low hE2 hb1.size, hb1.trans (hb2.mono hb1.size)⟩
set_option maxHeartbeats 8000000 in
theorem openPairs_bad (l : List Op3) (v : Value) (w : World) (h : IsOps w v l) (hc : (chk l).2 ≠ 0) :
    Calls Tryd.prog 16 #[v] w fun e w' => e = .returned (.tuple #[.slice none 0 0, .iface 59 (.int .i64 (chk l).2)]) ∧ Below w.heap.size w w' := by
  have HPB : Hid (∀ W, Below w.heap.size w W → Calls Tryd.prog 23 #[v] W fun e w' => e = .returned (.tuple #[.slice none 0 0, .iface 59 (.int .i64 (chk l).2)]) ∧ Below W.heap.size W w') := fun W hW => pairs_bad l v W (h.below hW (Nat.le_refl _)) hc
  obtain ⟨ad, b, off, cap, rfl, -⟩ := h
  obtain ⟨m, hm⟩ : ∃ m, (chk l).2 = m := ⟨_, rfl⟩
  rw [hm] at HPB ⊢
  clear hm hc
  go_enter Tryd.func16, Tryd.ntmps16
  go_upto_region 1 with (fail)
  obtain ⟨W, hW⟩ : ∃ W, W = w.alloc (.cells #[.slice ad l.length cap] 22) := ⟨_, rfl⟩
  rw [← hW]
  have HBW : Hid (Below w.heap.size w W) := by show Below _ _ _; rw [hW]; exact (Below.refl _ w).alloc (Nat.le_refl _) _
  have p0 : W.cell? ⟨w.heap.size, 0, none⟩ = some (.slice ad l.length cap) := by rw [hW]; simp
  clear hW
  go_wp2_with fail
  refine (HPB.out W HBW.out).mono ?_
  rintro e w1 ⟨rfl, hb1⟩
  have HB1 : Hid (Below w.heap.size w w1) := HBW.out.trans (hb1.mono HBW.out.size)
  clear hb1
  go_wp2_with fail
  go_ret2
  exact ⟨rfl, HB1.out⟩
set_option maxHeartbeats 8000000 in
theorem openPairs_ok (l : List Op3) (ad : Option Addr) (cap : Nat) (w : World) (h : IsOps w (.slice ad l.length cap) l) (hcap : l.length ≤ cap) (hc : (chk l).2 = 0) :
    Calls Tryd.prog 16 #[.slice ad l.length cap] w fun e w' => ∃ v', e = .returned (.tuple #[v', .nilIface]) ∧ IsEdges w' v' (openL l) ∧ Below w.heap.size w w' := by
  have hl := chk_len hc
  have HI : Hid (∀ W, Below w.heap.size w W → IsOps W (.slice ad l.length cap) l) := fun W hW => h.below hW (Nat.le_refl _)
  have HPB : Hid (∀ W, Below w.heap.size w W → Calls Tryd.prog 23 #[.slice ad l.length cap] W fun e w' => ∃ v', e = .returned (.tuple #[v', .nilIface]) ∧ w'.ownsRow W.heap.size 55 2 v' (pairsL l).length (flatE (pairsL l)) ∧ Below W.heap.size W w') := fun W hW => pairs_okO l _ W (HI.out W hW) hc
  have HHC : Hid (l.length ≤ cap ∧ l.length ≤ 40) := ⟨hcap, hl⟩
  clear h hc hcap hl
  go_enter Tryd.func16, Tryd.ntmps16
  go_upto_region 1 with (fail)
  obtain ⟨W, hW⟩ : ∃ W, W = w.alloc (.cells #[.slice ad l.length cap] 22) := ⟨_, rfl⟩
  rw [← hW]
  have HBW : Hid (Below w.heap.size w W) := by show Below _ _ _; rw [hW]; exact (Below.refl _ w).alloc (Nat.le_refl _) _
  have p0 : W.cell? ⟨w.heap.size, 0, none⟩ = some (.slice ad l.length cap) := by rw [hW]; simp
  have hHW : w.heap.size < W.heap.size := World.block_lt_of_cell? W _ p0
  obtain ⟨H, hH⟩ : ∃ H, H = w.heap.size := ⟨_, rfl⟩
  rw [← hH] at p0 hHW ⊢
  have HHW := hid_e hHW
  have HP0 := hid_e p0
  clear hW hH hHW
  go_wp2_with fail
  refine (HPB.out W HBW.out).mono ?_
  rintro e w1 ⟨pv, rfl, ho1, hb1⟩
  have HDEL : Hid (Calls Tryd.prog 37 #[pv, .func (.func 38) #[] #[.pointer (some ⟨H, 0, none⟩)]] w1 fun r w' => ∃ v', r = .returned v' ∧ IsEdges w' v' (openL l) ∧ Below W.heap.size W w') := by
    have hgr : ∀ W', w1.grownBy W' pv.ownBlock → Below W.heap.size W W' := fun W' hg => hb1.grown hg hb1.size (fun q hq => (ho1.lt q hq).1)
    refine (delete_edge (pairsL l) pv (goneE l) 38 W.heap.size #[.pointer (some ⟨H, 0, none⟩)] w1 call_gone ho1 (pairsL_len l HHC.out.2) (fun W' hg e he => ?_)).mono fun r w' ⟨v', h1, h2, h3⟩ => ⟨v', h1, h2, hgr w' h3⟩
    obtain ⟨i, j, hij, hj, _, rfl⟩ := mem_pairs.1 he
    have hVW := hgr W' hg
    exact gone_fn l ad cap i j H W' (HI.out W' (HBW.out.trans (hVW.mono HBW.out.size))) HHC.out.1 HHC.out.2 hij hj ((hVW.cell (p := ⟨H, 0, none⟩) HHW.out).trans HP0.out)
  obtain ⟨pad, pn, pcap, rfl⟩ : ∃ pad pn pcap, pv = .slice pad pn pcap := by
    obtain ⟨ad, _, _, cap, hv, _⟩ := isEdges_own ho1 rfl
    exact ⟨ad, _, cap, hv⟩
  clear ho1 hb1 p0
  go_wp2_with fail
  refine HDEL.out.mono ?_
  rintro e w2 ⟨v2, rfl, hE2, hb2⟩
  have HE2 := hid_e hE2
  have HB2 : Hid (Below w.heap.size w w2) := HBW.out.trans (hb2.mono HBW.out.size)
  obtain ⟨qad, qn, qcap, rfl⟩ : ∃ qad qn qcap, v2 = .slice qad qn qcap := by
    obtain ⟨ad, _, _, cap, hv, _⟩ := hE2
    exact ⟨ad, _, cap, hv⟩
  clear hE2 hb2
  go_wp2_with fail
  go_ret2
  exact ⟨_, rfl, HE2.out, HB2.out⟩
end Go.Proofs.YtjcaekhkeobhpahDoor
