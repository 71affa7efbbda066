/-
  PROVED HERE: package danger: its Edges and Pivots keep what they are asked (AntC, PivC). Old memory stays as it was.
  Conditions: what slices.Sort does is a premise (SortC).
  PROVED HERE: the library's contracts of slices.Sort, Equal, Contains, Index, IndexFunc and DeleteFunc at lists of numbers, laid at this program (each function's body is held against the one that the contract was proved of).
  Conditions: none.
-/
import Derived.Test.YtccjognnehoodagGreatDoorMgbp
import Derived.Test.YtccjognnehoodagGreatDoorMgbs
import Derived.Test.YtccjognnehoodagGreatDoorMgbt
import Derived.Test.YtccjognnehoodagGreatDoorMgbc
import Derived.Shelf.Sort.Plain
import Derived.Shelf.Slices.Turned
import Derived.Shelf.Slices.In.SortNone
import Derived.Ground.SlgfProg
import Derived.Shelf.SlicesE.IndexFunc
import Derived.Shelf.SlicesE.DeleteFunc
import Derived.Test.YtccjognnehoodagGreatDoorProg
namespace Go.Proofs.YtccjognnehoodagGreatDoor
open Go.RowKit

set_option maxHeartbeats 8000000 in
set_option maxRecDepth 100000 in
theorem ant_sort (hSort : SortC) : AntC 9 := by
  intro l v w hI
  have HRL := hid_q (rules_fn w)
  unfold antN
  by_cases hc : (chk l).2 = 0
  · have HER : Hid (errV (chk l).2 = .nilIface) := by show _ = _; rw [hc]; exact if_pos rfl
    rw [if_neg (by rw [hc]; decide)]
    have HWH : Hid (∀ W, Below w.heap.size w W → _) := fun W hW => whole_ok call_asItWas call_over seesS_c fallS_c.k l v W (fun _ _ => trivial) (hI.below hW (Nat.le_refl _)) hc
    obtain ⟨hl40, hop, hcalm⟩ := (chk_iff l).1 hc
    have HOK : Hid (CrsOk 1000 (runQ seesS fallS l l.length)) := (crsOk_all seesS fallS hop l.length (Nat.le_refl _)).up (by omega)
    have hF := cfit_all rulesS hc l.length (Nat.le_refl _)
    have hK := run_kOk 2 okS hc l.length (Nat.le_refl _)
    have HEQ : Hid (edgQ (runQ seesS fallS l l.length) (runQ seesS fallS l l.length).done = antL (runK 2 okS l l.length).of (runK 2 okS l l.length).done) := by
      show _ = _
      rw [hF.done]
      exact edg_ant hF hK.once (fun t ht => ⟨(hK.comm t ht).2.1, (hK.comm t ht).2.2.1⟩) fun x hx => ⟨(hK.comm x hx).1, .inl ⟨hx, (hK.comm x hx).2.2.2.1⟩⟩
    obtain ⟨ad, b, off, cap, rfl, -⟩ := hI
    obtain ⟨q, hq⟩ : ∃ q, runQ seesS fallS l l.length = q := ⟨_, rfl⟩
    rw [hq] at HOK HEQ HWH
    rw [← HEQ.out, HER.out]
    have HED : Hid (∀ (w0 W : World) (R : Nat) (S F : Value) (c : CLay) (v : Value), CrsAt w0 W R S F q c → IsInts W v q.done → Calls Tryz.prog 25 #[.pointer (some ⟨R, 0, none⟩), v] W fun e w' => ∃ v', e = .returned v' ∧ IsEdges w' v' (edgQ q q.done) ∧ Below W.heap.size W w') := fun w0 W R S F c v h hv =>
      edges_fn hSort h HOK.out q.done v hv HOK.out.lenD fun t ht => ⟨(HOK.out.six t ht).1, (HOK.out.six t ht).2, HOK.out.begs t ht⟩
    clear hc hop hcalm hl40 hF hK hq HEQ hSort
    go_enter Tryz.func9, Tryz.ntmps9
    go_wp2_with fail
    refine HRL.out.mono ?_
    rintro e w1 ⟨rfl, hb1⟩
    have HB1 := hid_q hb1
    clear hb1
    go_wp2_with fail
    refine (HWH.out w1 HB1.out).mono ?_
    rintro e w2 ⟨W0, R, rfl, hb2, c2, hk2⟩
    have HB2 : Hid (Below w.heap.size w w2) := HB1.out.trans ((hb2.trans (hk2.old.mono hb2.size)).mono HB1.out.size)
    have HK2 := hid_q hk2
    clear hb2 hk2
    have HDN := hid_q (done_crs HK2.out HOK.out.lenD)
    go_wp2_with fail
    refine HDN.out.mono ?_
    rintro e w4 ⟨v4, rfl, ho4, hb4⟩
    have HEE := hid_q (HED.out W0 w4 R _ _ c2 v4 (HK2.out.below hb4) (isInts_own ho4 rfl))
    have HB4 : Hid (Below w.heap.size w w4) := HB2.out.trans (hb4.mono HB2.out.size)
    obtain ⟨m, hm⟩ : ∃ m, q.done.length = m := ⟨_, rfl⟩
    rw [hm] at ho4
    obtain ⟨ad4, c4, rfl, -⟩ := own_slice3 ho4
    clear ho4 hb4 hm
    go_wp2_with fail
    refine HEE.out.mono ?_
    rintro e w6 ⟨v6, rfl, hi6, hb6⟩
    have HI6 := hid_q hi6
    have HB6 : Hid (Below w.heap.size w w6) := HB4.out.trans (hb6.mono HB4.out.size)
    obtain ⟨ad6, n6, c6, rfl⟩ : ∃ d n p, v6 = .slice d n p := by obtain ⟨a, _, _, c, h, _⟩ := hi6; exact ⟨a, _, c, h⟩
    clear hi6 hb6
    go_wp2_with fail
    go_ret2
    exact ⟨_, rfl, HI6.out, HB6.out⟩
  · have HER : Hid (errV (chk l).2 = .iface 73 (.int .i64 (chk l).2)) := by show _ = _; unfold errV; rw [if_neg hc]
    rw [if_pos hc]
    have HWH : Hid (∀ W, Below w.heap.size w W → _) := fun W hW => whole_bad (.func (.func 42) #[] #[]) (.func (.func 43) #[] #[]) l v W (hI.below hW (Nat.le_refl _)) hc
    obtain ⟨ad, b, off, cap, rfl, -⟩ := hI
    obtain ⟨n, hn⟩ : ∃ n, (chk l).2 = n := ⟨_, rfl⟩
    rw [hn] at HWH HER
    rw [hn, HER.out]
    clear hc hn hSort
    go_enter Tryz.func9, Tryz.ntmps9
    go_wp2_with fail
    refine HRL.out.mono ?_
    rintro e w1 ⟨rfl, hb1⟩
    have HB1 := hid_q hb1
    clear hb1
    go_wp2_with fail
    refine (HWH.out w1 HB1.out).mono ?_
    rintro e w2 ⟨rfl, hb2⟩
    have HB2 : Hid (Below w.heap.size w w2) := HB1.out.trans (hb2.mono HB1.out.size)
    clear hb2
    go_wp2_with fail
    go_ret2
    exact ⟨_, rfl, isEdges_nil _, HB2.out⟩
set_option maxHeartbeats 8000000 in
set_option maxRecDepth 100000 in
theorem piv_sort (hSort : SortC) : PivC 12 := by
  intro l v w hI
  have HA := hid_q (ant_sort hSort l v w hI)
  obtain ⟨ad, b, off, cap, rfl, -⟩ := hI
  unfold pivN
  unfold antN at HA
  by_cases hc : (chk l).2 = 0
  · have HER : Hid (errV (chk l).2 = .nilIface) := by show _ = _; rw [hc]; exact if_pos rfl
    have hne : ¬ (chk l).2 ≠ 0 := by rw [hc]; decide
    rw [if_neg hne] at HA ⊢
    rw [HER.out] at HA ⊢
    have HEL : Hid ((antL (runK 2 okS l l.length).of (runK 2 okS l l.length).done).length ≤ 10000000) := Nat.le_trans (allE_len _) (by decide)
    obtain ⟨E, hE⟩ : ∃ E, antL (runK 2 okS l l.length).of (runK 2 okS l l.length).done = E := ⟨_, rfl⟩
    rw [hE] at HA HEL ⊢
    clear hc hne hE hSort
    go_enter Tryz.func12, Tryz.ntmps12
    go_wp2_with fail
    refine HA.out.mono ?_
    rintro e w1 ⟨v1, rfl, hi1, hb1⟩
    have HPP := hid_q (dpivots_fn E v1 w1 hi1 HEL.out)
    have HB1 := hid_q hb1
    obtain ⟨ad1, n1, c1, rfl⟩ : ∃ d n p, v1 = .slice d n p := by obtain ⟨a, _, _, c, h, _⟩ := hi1; exact ⟨a, _, c, h⟩
    clear hi1 hb1
    go_wp2_with fail
    refine HPP.out.mono ?_
    rintro e w2 ⟨v2, rfl, ho2, hb2⟩
    have HI2 := hid_q (isInts_own ho2 rfl)
    have HB2 : Hid (Below w.heap.size w w2) := HB1.out.trans (hb2.mono HB1.out.size)
    obtain ⟨ad2, n2, c2, rfl⟩ : ∃ d n p, v2 = .slice d n p := by obtain ⟨a, _, _, c, h, _⟩ := HI2.out; exact ⟨a, _, c, h⟩
    clear ho2 hb2
    go_wp2_with fail
    go_ret2
    exact ⟨_, rfl, HI2.out, HB2.out⟩
  · have HER : Hid (errV (chk l).2 = .iface 73 (.int .i64 (chk l).2)) := by show _ = _; unfold errV; rw [if_neg hc]
    rw [if_pos hc] at HA ⊢
    obtain ⟨n, hn⟩ : ∃ n, (chk l).2 = n := ⟨_, rfl⟩
    rw [hn] at HER HA
    rw [hn, HER.out]
    rw [HER.out] at HA
    clear hc hn hSort
    go_enter Tryz.func12, Tryz.ntmps12
    go_wp2_with fail
    refine HA.out.mono ?_
    rintro e w1 ⟨v1, rfl, hi1, hb1⟩
    have HB1 := hid_q hb1
    obtain ⟨ad1, n1, c1, rfl⟩ : ∃ d n p, v1 = .slice d n p := by obtain ⟨a, _, _, c, h, _⟩ := hi1; exact ⟨a, _, c, h⟩
    clear hi1 hb1
    go_wp2_with fail
    go_ret2
    exact ⟨_, rfl, isInts_nil _, HB1.out⟩
end Go.Proofs.YtccjognnehoodagGreatDoor

namespace Go.Proofs
open Go.Shelf
def Tryz.lays189_ren : Go.Shelf.Ren := ⟨fun | 189 => 77 | 125 => 96 | 257 => 95 | 128 => 111 | 129 => 112 | 294 => 102 | 295 => 103 | 296 => 104 | 297 => 105 | 298 => 106 | 299 => 107 | 216 => 108 | 300 => 109 | 301 => 110 | 328 => 113 | 329 => 114 | 330 => 115 | 331 => 116 | 332 => 117 | 215 => 118 | 343 => 119 | n => n, fun | 28 => 25 | 3 => 3 | 46 => 143 | 0 => 0 | 51 => 166 | 53 => 168 | 4 => 4 | 183 => 160 | 182 => 159 | 131 => 139 | 5 => 5 | 9 => 9 | 218 => 169 | 222 => 173 | 228 => 175 | 229 => 46 | n => n, fun | n => n⟩
theorem Tryz.lays189 : Go.Proofs.Lays.n189 Tryz.prog Tryz.lays189_ren := {
  mixed := by kernel_rfl
  f125 := Tryz.func96.trans (congrArg some (by kernel_rfl))
  f128 := Tryz.func111.trans (congrArg some (by kernel_rfl))
  f129 := Tryz.func112.trans (congrArg some (by kernel_rfl))
  f189 := Tryz.func77.trans (congrArg some (by kernel_rfl))
  f215 := Tryz.func118.trans (congrArg some (by kernel_rfl))
  f216 := Tryz.func108.trans (congrArg some (by kernel_rfl))
  f257 := Tryz.func95.trans (congrArg some (by kernel_rfl))
  f294 := Tryz.func102.trans (congrArg some (by kernel_rfl))
  f295 := Tryz.func103.trans (congrArg some (by kernel_rfl))
  f296 := Tryz.func104.trans (congrArg some (by kernel_rfl))
  f297 := Tryz.func105.trans (congrArg some (by kernel_rfl))
  f298 := Tryz.func106.trans (congrArg some (by kernel_rfl))
  f299 := Tryz.func107.trans (congrArg some (by kernel_rfl))
  f300 := Tryz.func109.trans (congrArg some (by kernel_rfl))
  f301 := Tryz.func110.trans (congrArg some (by kernel_rfl))
  f328 := Tryz.func113.trans (congrArg some (by kernel_rfl))
  f329 := Tryz.func114.trans (congrArg some (by kernel_rfl))
  f330 := Tryz.func115.trans (congrArg some (by kernel_rfl))
  f331 := Tryz.func116.trans (congrArg some (by kernel_rfl))
  f332 := Tryz.func117.trans (congrArg some (by kernel_rfl))
  f343 := Tryz.func119.trans (congrArg some (by kernel_rfl))
  t0 := Tryz.underlying0
  a0 := Tryz.isAgg0
  z0 := Tryz.sizeOf0
  v0 := Tryz.zeroValue0
  t3 := Tryz.underlying3
  a3 := Tryz.isAgg3
  z3 := Tryz.sizeOf3
  v3 := Tryz.zeroValue3
  t4 := Tryz.underlying4
  a4 := Tryz.isAgg4
  z4 := Tryz.sizeOf4
  v4 := Tryz.zeroValue4
  t5 := Tryz.underlying5
  a5 := Tryz.isAgg5
  z5 := Tryz.sizeOf5
  v5 := Tryz.zeroValue5
  t9 := Tryz.underlying9
  a9 := Tryz.isAgg9
  z9 := Tryz.sizeOf9
  v9 := Tryz.zeroValue9
  t28 := Tryz.underlying25
  a28 := Tryz.isAgg25
  z28 := Tryz.sizeOf25
  v28 := Tryz.zeroValue25
  t46 := Tryz.underlying143
  a46 := Tryz.isAgg143
  z46 := Tryz.sizeOf143
  v46 := Tryz.zeroValue143
  t51 := Tryz.underlying166
  a51 := Tryz.isAgg166
  z51 := Tryz.sizeOf166
  v51 := Tryz.zeroValue166
  t53 := Tryz.underlying168
  a53 := Tryz.isAgg168
  z53 := Tryz.sizeOf168
  v53 := Tryz.zeroValue168
  t131 := Tryz.underlying139
  a131 := Tryz.isAgg139
  z131 := Tryz.sizeOf139
  v131 := Tryz.zeroValue139
  t182 := Tryz.underlying159
  a182 := Tryz.isAgg159
  z182 := Tryz.sizeOf159
  v182 := Tryz.zeroValue159
  t183 := Tryz.underlying160
  a183 := Tryz.isAgg160
  z183 := Tryz.sizeOf160
  v183 := Tryz.zeroValue160
  t218 := Tryz.underlying169
  a218 := Tryz.isAgg169
  z218 := Tryz.sizeOf169
  v218 := Tryz.zeroValue169
  t222 := Tryz.underlying173
  a222 := Tryz.isAgg173
  z222 := Tryz.sizeOf173
  v222 := Tryz.zeroValue173
  t228 := Tryz.underlying175
  a228 := Tryz.isAgg175
  z228 := Tryz.sizeOf175
  v228 := Tryz.zeroValue175
  t229 := Tryz.underlying46
  a229 := Tryz.isAgg46
  z229 := Tryz.sizeOf46
  v229 := Tryz.zeroValue46 }
def Tryz.lays108_ren : Go.Shelf.Ren := ⟨fun | 108 => 101 | n => n, fun | 28 => 25 | 3 => 3 | 0 => 0 | 4 => 4 | n => n, fun | n => n⟩
theorem Tryz.lays108 : Go.Proofs.Lays.n108 Tryz.prog Tryz.lays108_ren := {
  mixed := by kernel_rfl
  f108 := Tryz.func101.trans (congrArg some (by kernel_rfl))
  t0 := Tryz.underlying0
  a0 := Tryz.isAgg0
  z0 := Tryz.sizeOf0
  v0 := Tryz.zeroValue0
  t3 := Tryz.underlying3
  a3 := Tryz.isAgg3
  z3 := Tryz.sizeOf3
  v3 := Tryz.zeroValue3
  t4 := Tryz.underlying4
  a4 := Tryz.isAgg4
  z4 := Tryz.sizeOf4
  v4 := Tryz.zeroValue4
  t28 := Tryz.underlying25
  a28 := Tryz.isAgg25
  z28 := Tryz.sizeOf25
  v28 := Tryz.zeroValue25 }
def Tryz.lays107_ren : Go.Shelf.Ren := ⟨fun | 107 => 93 | 108 => 101 | n => n, fun | 28 => 25 | 3 => 3 | 4 => 4 | 0 => 0 | n => n, fun | n => n⟩
theorem Tryz.lays107 : Go.Proofs.Lays.n107 Tryz.prog Tryz.lays107_ren := {
  mixed := by kernel_rfl
  f107 := Tryz.func93.trans (congrArg some (by kernel_rfl))
  f108 := Tryz.func101.trans (congrArg some (by kernel_rfl))
  t0 := Tryz.underlying0
  a0 := Tryz.isAgg0
  z0 := Tryz.sizeOf0
  v0 := Tryz.zeroValue0
  t3 := Tryz.underlying3
  a3 := Tryz.isAgg3
  z3 := Tryz.sizeOf3
  v3 := Tryz.zeroValue3
  t4 := Tryz.underlying4
  a4 := Tryz.isAgg4
  z4 := Tryz.sizeOf4
  v4 := Tryz.zeroValue4
  t28 := Tryz.underlying25
  a28 := Tryz.isAgg25
  z28 := Tryz.sizeOf25
  v28 := Tryz.zeroValue25 }
def Tryz.laysSlH6_f88_ren : Go.Shelf.Ren := ⟨fun | 6 => 88 | n => n, fun | 22 => 25 | 23 => 3 | 25 => 81 | 3 => 3 | 0 => 0 | 4 => 4 | n => n, fun | n => n⟩
theorem Tryz.laysSlH6_f88 : Go.Proofs.SlLaysH.n6 Tryz.prog Tryz.laysSlH6_f88_ren := {
  mixed := by kernel_rfl
  f6 := ⟨Tryz.f88.name, by decide, Tryz.func88.trans (congrArg some (by kernel_rfl))⟩
  t0 := Tryz.underlying0
  a0 := Tryz.isAgg0
  z0 := Tryz.sizeOf0
  v0 := Tryz.zeroValue0
  t3 := Tryz.underlying3
  a3 := Tryz.isAgg3
  z3 := Tryz.sizeOf3
  v3 := Tryz.zeroValue3
  t4 := Tryz.underlying4
  a4 := Tryz.isAgg4
  z4 := Tryz.sizeOf4
  v4 := Tryz.zeroValue4
  t22 := Tryz.underlying25
  a22 := Tryz.isAgg25
  z22 := Tryz.sizeOf25
  v22 := Tryz.zeroValue25
  a23 := Tryz.isAgg3
  z23 := Tryz.sizeOf3
  t25 := Tryz.underlying81
  a25 := Tryz.isAgg81
  z25 := Tryz.sizeOf81
  v25 := Tryz.zeroValue81 }
def Tryz.laysSlH8_f72_ren : Go.Shelf.Ren := ⟨fun | 8 => 72 | 6 => 88 | n => n, fun | 22 => 25 | 23 => 3 | 25 => 81 | 4 => 4 | 3 => 3 | 0 => 0 | n => n, fun | n => n⟩
theorem Tryz.laysSlH8_f72 : Go.Proofs.SlLaysH.n8 Tryz.prog Tryz.laysSlH8_f72_ren := {
  mixed := by kernel_rfl
  f6 := ⟨Tryz.f88.name, by decide, Tryz.func88.trans (congrArg some (by kernel_rfl))⟩
  f8 := ⟨Tryz.f72.name, by decide, Tryz.func72.trans (congrArg some (by kernel_rfl))⟩
  t0 := Tryz.underlying0
  a0 := Tryz.isAgg0
  z0 := Tryz.sizeOf0
  v0 := Tryz.zeroValue0
  t3 := Tryz.underlying3
  a3 := Tryz.isAgg3
  z3 := Tryz.sizeOf3
  v3 := Tryz.zeroValue3
  t4 := Tryz.underlying4
  a4 := Tryz.isAgg4
  z4 := Tryz.sizeOf4
  v4 := Tryz.zeroValue4
  t22 := Tryz.underlying25
  a22 := Tryz.isAgg25
  z22 := Tryz.sizeOf25
  v22 := Tryz.zeroValue25
  a23 := Tryz.isAgg3
  z23 := Tryz.sizeOf3
  t25 := Tryz.underlying81
  a25 := Tryz.isAgg81
  z25 := Tryz.sizeOf81
  v25 := Tryz.zeroValue81 }
def Tryz.laysSlH10_f57_ren : Go.Shelf.Ren := ⟨fun | 10 => 57 | 6 => 88 | n => n, fun | 22 => 25 | 23 => 3 | 25 => 81 | 3 => 3 | 4 => 4 | 0 => 0 | n => n, fun | n => n⟩
theorem Tryz.laysSlH10_f57 : Go.Proofs.SlLaysH.n10 Tryz.prog Tryz.laysSlH10_f57_ren := {
  mixed := by kernel_rfl
  f6 := ⟨Tryz.f88.name, by decide, Tryz.func88.trans (congrArg some (by kernel_rfl))⟩
  f10 := ⟨Tryz.f57.name, by decide, Tryz.func57.trans (congrArg some (by kernel_rfl))⟩
  t0 := Tryz.underlying0
  a0 := Tryz.isAgg0
  z0 := Tryz.sizeOf0
  v0 := Tryz.zeroValue0
  t3 := Tryz.underlying3
  a3 := Tryz.isAgg3
  z3 := Tryz.sizeOf3
  v3 := Tryz.zeroValue3
  t4 := Tryz.underlying4
  a4 := Tryz.isAgg4
  z4 := Tryz.sizeOf4
  v4 := Tryz.zeroValue4
  t22 := Tryz.underlying25
  a22 := Tryz.isAgg25
  z22 := Tryz.sizeOf25
  v22 := Tryz.zeroValue25
  a23 := Tryz.isAgg3
  z23 := Tryz.sizeOf3
  t25 := Tryz.underlying81
  a25 := Tryz.isAgg81
  z25 := Tryz.sizeOf81
  v25 := Tryz.zeroValue81 }
end Go.Proofs
