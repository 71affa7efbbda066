/-
  PROVED HERE: package danger: its Edges and Pivots keep what they are asked (AntC, PivC). Old memory stays as it was.
  Conditions: what slices.Sort does is a premise (SortC).
  PROVED HERE: the library's contracts of slices.Sort, Equal, Contains, Index, IndexFunc and DeleteFunc at lists of numbers, laid at this program (each function's body is held against the one that the contract was proved of).
  Conditions: none.
-/
import Derived.Test.YtccjognnehoodagMgbv
import Derived.Test.YtccjognnehoodagMgby
import Derived.Test.YtccjognnehoodagMgbz
import Derived.Test.YtccjognnehoodagMgba
import Derived.Shelf.Sort.Plain
import Derived.Shelf.Slices.Turned
import Derived.Shelf.Slices.In.SortNone
import Derived.Ground.SlgfProg
import Derived.Shelf.SlicesE.IndexFunc
import Derived.Test.YtccjognnehoodagProg
namespace Go.Proofs.Ytccjognnehoodag
open Go.RowKit

set_option maxHeartbeats 8000000 in
set_option maxRecDepth 100000 in
theorem ant_sort (hSort : SortC) : AntC 20 := by
  intro l v w hI
  have HRL := hid_q (rules_fn w)
  unfold antN
  by_cases hc : (chk l).2 = 0
  · have HER : Hid (errV (chk l).2 = .nilIface) := by show _ = _; rw [hc]; exact if_pos rfl
    rw [if_neg (by rw [hc]; decide)]
    have HWH : Hid (∀ W, Below w.heap.size w W → _) := fun W hW => whole_ok call_asItWas call_over seesS_c fallS_c.k l v W (fun _ _ => trivial) (hI.below hW (Nat.le_refl _)) hc
    obtain ⟨hl40, hop, hcalm⟩ := (chk_iff l).1 hc
    have HOK : Hid (CrsOk 1000 (runQ seesS fallS l l.length)) := (crsOk_all seesS fallS hop l.length (Nat.le_refl _)).up (by omega)
    have hF := cfit_all rulesS hc l.length (Nat.le_refl _)
    have hK := run_kOk 2 okS hc l.length (Nat.le_refl _)
    have HEQ : Hid (edgQ (runQ seesS fallS l l.length) (runQ seesS fallS l l.length).done = antL (runK 2 okS l l.length).of (runK 2 okS l l.length).done) := by
      show _ = _
      rw [hF.done]
      exact edg_ant hF hK.once (fun t ht => ⟨(hK.comm t ht).2.1, (hK.comm t ht).2.2.1⟩) fun x hx => ⟨(hK.comm x hx).1, .inl ⟨hx, (hK.comm x hx).2.2.2.1⟩⟩
    obtain ⟨ad, b, off, cap, rfl, -⟩ := hI
    obtain ⟨q, hq⟩ : ∃ q, runQ seesS fallS l l.length = q := ⟨_, rfl⟩
    rw [hq] at HOK HEQ HWH
    rw [← HEQ.out, HER.out]
    have HED : Hid (∀ (w0 W : World) (R : Nat) (S F : Value) (c : CLay) (v : Value), CrsAt w0 W R S F q c → IsInts W v q.done → Calls Try.prog 34 #[.pointer (some ⟨R, 0, none⟩), v] W fun e w' => ∃ v', e = .returned v' ∧ IsEdges w' v' (edgQ q q.done) ∧ Below W.heap.size W w') := fun w0 W R S F c v h hv =>
      edges_fn hSort h HOK.out q.done v hv HOK.out.lenD fun t ht => ⟨(HOK.out.six t ht).1, (HOK.out.six t ht).2, HOK.out.begs t ht⟩
    clear hc hop hcalm hl40 hF hK hq HEQ hSort
    go_enter Try.func20, Try.ntmps20
    go_wp2_with fail
    refine HRL.out.mono ?_
    rintro e w1 ⟨rfl, hb1⟩
    have HB1 := hid_q hb1
    clear hb1
    go_wp2_with fail
    refine (HWH.out w1 HB1.out).mono ?_
    rintro e w2 ⟨W0, R, rfl, hb2, c2, hk2⟩
    have HB2 : Hid (Below w.heap.size w w2) := HB1.out.trans ((hb2.trans (hk2.old.mono hb2.size)).mono HB1.out.size)
    have HK2 := hid_q hk2
    clear hb2 hk2
    have HDN := hid_q (done_crs HK2.out HOK.out.lenD)
    go_wp2_with fail
    refine HDN.out.mono ?_
    rintro e w4 ⟨v4, rfl, ho4, hb4⟩
    have HEE := hid_q (HED.out W0 w4 R _ _ c2 v4 (HK2.out.below hb4) (isInts_own ho4 rfl))
    have HB4 : Hid (Below w.heap.size w w4) := HB2.out.trans (hb4.mono HB2.out.size)
    obtain ⟨m, hm⟩ : ∃ m, q.done.length = m := ⟨_, rfl⟩
    rw [hm] at ho4
    obtain ⟨ad4, c4, rfl, -⟩ := own_slice3 ho4
    clear ho4 hb4 hm
    go_wp2_with fail
    refine HEE.out.mono ?_
    rintro e w6 ⟨v6, rfl, hi6, hb6⟩
    have HI6 := hid_q hi6
    have HB6 : Hid (Below w.heap.size w w6) := HB4.out.trans (hb6.mono HB4.out.size)
    obtain ⟨ad6, n6, c6, rfl⟩ : ∃ d n p, v6 = .slice d n p := by obtain ⟨a, _, _, c, h, _⟩ := hi6; exact ⟨a, _, c, h⟩
    clear hi6 hb6
    go_wp2_with fail
    go_ret2
    exact ⟨_, rfl, HI6.out, HB6.out⟩
  · have HER : Hid (errV (chk l).2 = .iface 104 (.int .i64 (chk l).2)) := by show _ = _; unfold errV; rw [if_neg hc]
    rw [if_pos hc]
    have HWH : Hid (∀ W, Below w.heap.size w W → _) := fun W hW => whole_bad (.func (.func 36) #[] #[]) (.func (.func 37) #[] #[]) l v W (hI.below hW (Nat.le_refl _)) hc
    obtain ⟨ad, b, off, cap, rfl, -⟩ := hI
    obtain ⟨n, hn⟩ : ∃ n, (chk l).2 = n := ⟨_, rfl⟩
    rw [hn] at HWH HER
    rw [hn, HER.out]
    clear hc hn hSort
    go_enter Try.func20, Try.ntmps20
    go_wp2_with fail
    refine HRL.out.mono ?_
    rintro e w1 ⟨rfl, hb1⟩
    have HB1 := hid_q hb1
    clear hb1
    go_wp2_with fail
    refine (HWH.out w1 HB1.out).mono ?_
    rintro e w2 ⟨rfl, hb2⟩
    have HB2 : Hid (Below w.heap.size w w2) := HB1.out.trans (hb2.mono HB1.out.size)
    clear hb2
    go_wp2_with fail
    go_ret2
    exact ⟨_, rfl, isEdges_nil _, HB2.out⟩
set_option maxHeartbeats 8000000 in
set_option maxRecDepth 100000 in
theorem piv_sort (hSort : SortC) : PivC 12 := by
  intro l v w hI
  have HA := hid_q (ant_sort hSort l v w hI)
  obtain ⟨ad, b, off, cap, rfl, -⟩ := hI
  unfold pivN
  unfold antN at HA
  by_cases hc : (chk l).2 = 0
  · have HER : Hid (errV (chk l).2 = .nilIface) := by show _ = _; rw [hc]; exact if_pos rfl
    have hne : ¬ (chk l).2 ≠ 0 := by rw [hc]; decide
    rw [if_neg hne] at HA ⊢
    rw [HER.out] at HA ⊢
    have HEL : Hid ((antL (runK 2 okS l l.length).of (runK 2 okS l l.length).done).length ≤ 10000000) := Nat.le_trans (allE_len _) (by decide)
    obtain ⟨E, hE⟩ : ∃ E, antL (runK 2 okS l l.length).of (runK 2 okS l l.length).done = E := ⟨_, rfl⟩
    rw [hE] at HA HEL ⊢
    clear hc hne hE hSort
    go_enter Try.func12, Try.ntmps12
    go_wp2_with fail
    refine HA.out.mono ?_
    rintro e w1 ⟨v1, rfl, hi1, hb1⟩
    have HPP := hid_q (dpivots_fn E v1 w1 hi1 HEL.out)
    have HB1 := hid_q hb1
    obtain ⟨ad1, n1, c1, rfl⟩ : ∃ d n p, v1 = .slice d n p := by obtain ⟨a, _, _, c, h, _⟩ := hi1; exact ⟨a, _, c, h⟩
    clear hi1 hb1
    go_wp2_with fail
    refine HPP.out.mono ?_
    rintro e w2 ⟨v2, rfl, ho2, hb2⟩
    have HI2 := hid_q (isInts_own ho2 rfl)
    have HB2 : Hid (Below w.heap.size w w2) := HB1.out.trans (hb2.mono HB1.out.size)
    obtain ⟨ad2, n2, c2, rfl⟩ : ∃ d n p, v2 = .slice d n p := by obtain ⟨a, _, _, c, h, _⟩ := HI2.out; exact ⟨a, _, c, h⟩
    clear ho2 hb2
    go_wp2_with fail
    go_ret2
    exact ⟨_, rfl, HI2.out, HB2.out⟩
  · have HER : Hid (errV (chk l).2 = .iface 104 (.int .i64 (chk l).2)) := by show _ = _; unfold errV; rw [if_neg hc]
    rw [if_pos hc] at HA ⊢
    obtain ⟨n, hn⟩ : ∃ n, (chk l).2 = n := ⟨_, rfl⟩
    rw [hn] at HER HA
    rw [hn, HER.out]
    rw [HER.out] at HA
    clear hc hn hSort
    go_enter Try.func12, Try.ntmps12
    go_wp2_with fail
    refine HA.out.mono ?_
    rintro e w1 ⟨v1, rfl, hi1, hb1⟩
    have HB1 := hid_q hb1
    obtain ⟨ad1, n1, c1, rfl⟩ : ∃ d n p, v1 = .slice d n p := by obtain ⟨a, _, _, c, h, _⟩ := hi1; exact ⟨a, _, c, h⟩
    clear hi1 hb1
    go_wp2_with fail
    go_ret2
    exact ⟨_, rfl, isInts_nil _, HB1.out⟩
end Go.Proofs.Ytccjognnehoodag

namespace Go.Proofs
open Go.Shelf
def Try.lays189_ren : Go.Shelf.Ren := ⟨fun | 189 => 31 | 125 => 57 | 257 => 56 | 128 => 85 | 129 => 86 | 294 => 76 | 295 => 77 | 296 => 78 | 297 => 79 | 298 => 80 | 299 => 81 | 216 => 82 | 300 => 83 | 301 => 84 | 328 => 92 | 329 => 93 | 330 => 94 | 331 => 95 | 332 => 96 | 215 => 97 | 343 => 100 | n => n, fun | 28 => 25 | 3 => 3 | 46 => 92 | 0 => 0 | 51 => 117 | 53 => 119 | 4 => 4 | 183 => 111 | 182 => 110 | 131 => 114 | 5 => 5 | 9 => 9 | 218 => 123 | 222 => 127 | 228 => 130 | 229 => 131 | n => n, fun | n => n⟩
theorem Try.lays189 : Go.Proofs.Lays.n189 Try.prog Try.lays189_ren := {
  mixed := by kernel_rfl
  f125 := Try.func57.trans (congrArg some (by kernel_rfl))
  f128 := Try.func85.trans (congrArg some (by kernel_rfl))
  f129 := Try.func86.trans (congrArg some (by kernel_rfl))
  f189 := Try.func31.trans (congrArg some (by kernel_rfl))
  f215 := Try.func97.trans (congrArg some (by kernel_rfl))
  f216 := Try.func82.trans (congrArg some (by kernel_rfl))
  f257 := Try.func56.trans (congrArg some (by kernel_rfl))
  f294 := Try.func76.trans (congrArg some (by kernel_rfl))
  f295 := Try.func77.trans (congrArg some (by kernel_rfl))
  f296 := Try.func78.trans (congrArg some (by kernel_rfl))
  f297 := Try.func79.trans (congrArg some (by kernel_rfl))
  f298 := Try.func80.trans (congrArg some (by kernel_rfl))
  f299 := Try.func81.trans (congrArg some (by kernel_rfl))
  f300 := Try.func83.trans (congrArg some (by kernel_rfl))
  f301 := Try.func84.trans (congrArg some (by kernel_rfl))
  f328 := Try.func92.trans (congrArg some (by kernel_rfl))
  f329 := Try.func93.trans (congrArg some (by kernel_rfl))
  f330 := Try.func94.trans (congrArg some (by kernel_rfl))
  f331 := Try.func95.trans (congrArg some (by kernel_rfl))
  f332 := Try.func96.trans (congrArg some (by kernel_rfl))
  f343 := Try.func100.trans (congrArg some (by kernel_rfl))
  t0 := Try.underlying0
  a0 := Try.isAgg0
  z0 := Try.sizeOf0
  v0 := Try.zeroValue0
  t3 := Try.underlying3
  a3 := Try.isAgg3
  z3 := Try.sizeOf3
  v3 := Try.zeroValue3
  t4 := Try.underlying4
  a4 := Try.isAgg4
  z4 := Try.sizeOf4
  v4 := Try.zeroValue4
  t5 := Try.underlying5
  a5 := Try.isAgg5
  z5 := Try.sizeOf5
  v5 := Try.zeroValue5
  t9 := Try.underlying9
  a9 := Try.isAgg9
  z9 := Try.sizeOf9
  v9 := Try.zeroValue9
  t28 := Try.underlying25
  a28 := Try.isAgg25
  z28 := Try.sizeOf25
  v28 := Try.zeroValue25
  t46 := Try.underlying92
  a46 := Try.isAgg92
  z46 := Try.sizeOf92
  v46 := Try.zeroValue92
  t51 := Try.underlying117
  a51 := Try.isAgg117
  z51 := Try.sizeOf117
  v51 := Try.zeroValue117
  t53 := Try.underlying119
  a53 := Try.isAgg119
  z53 := Try.sizeOf119
  v53 := Try.zeroValue119
  t131 := Try.underlying114
  a131 := Try.isAgg114
  z131 := Try.sizeOf114
  v131 := Try.zeroValue114
  t182 := Try.underlying110
  a182 := Try.isAgg110
  z182 := Try.sizeOf110
  v182 := Try.zeroValue110
  t183 := Try.underlying111
  a183 := Try.isAgg111
  z183 := Try.sizeOf111
  v183 := Try.zeroValue111
  t218 := Try.underlying123
  a218 := Try.isAgg123
  z218 := Try.sizeOf123
  v218 := Try.zeroValue123
  t222 := Try.underlying127
  a222 := Try.isAgg127
  z222 := Try.sizeOf127
  v222 := Try.zeroValue127
  t228 := Try.underlying130
  a228 := Try.isAgg130
  z228 := Try.sizeOf130
  v228 := Try.zeroValue130
  t229 := Try.underlying131
  a229 := Try.isAgg131
  z229 := Try.sizeOf131
  v229 := Try.zeroValue131 }
def Try.lays108_ren : Go.Shelf.Ren := ⟨fun | 108 => 91 | n => n, fun | 28 => 25 | 3 => 3 | 0 => 0 | 4 => 4 | n => n, fun | n => n⟩
theorem Try.lays108 : Go.Proofs.Lays.n108 Try.prog Try.lays108_ren := {
  mixed := by kernel_rfl
  f108 := Try.func91.trans (congrArg some (by kernel_rfl))
  t0 := Try.underlying0
  a0 := Try.isAgg0
  z0 := Try.sizeOf0
  v0 := Try.zeroValue0
  t3 := Try.underlying3
  a3 := Try.isAgg3
  z3 := Try.sizeOf3
  v3 := Try.zeroValue3
  t4 := Try.underlying4
  a4 := Try.isAgg4
  z4 := Try.sizeOf4
  v4 := Try.zeroValue4
  t28 := Try.underlying25
  a28 := Try.isAgg25
  z28 := Try.sizeOf25
  v28 := Try.zeroValue25 }
def Try.lays107_ren : Go.Shelf.Ren := ⟨fun | 107 => 71 | 108 => 91 | n => n, fun | 28 => 25 | 3 => 3 | 4 => 4 | 0 => 0 | n => n, fun | n => n⟩
theorem Try.lays107 : Go.Proofs.Lays.n107 Try.prog Try.lays107_ren := {
  mixed := by kernel_rfl
  f107 := Try.func71.trans (congrArg some (by kernel_rfl))
  f108 := Try.func91.trans (congrArg some (by kernel_rfl))
  t0 := Try.underlying0
  a0 := Try.isAgg0
  z0 := Try.sizeOf0
  v0 := Try.zeroValue0
  t3 := Try.underlying3
  a3 := Try.isAgg3
  z3 := Try.sizeOf3
  v3 := Try.zeroValue3
  t4 := Try.underlying4
  a4 := Try.isAgg4
  z4 := Try.sizeOf4
  v4 := Try.zeroValue4
  t28 := Try.underlying25
  a28 := Try.isAgg25
  z28 := Try.sizeOf25
  v28 := Try.zeroValue25 }
def Try.laysSlH6_f69_ren : Go.Shelf.Ren := ⟨fun | 6 => 69 | n => n, fun | 22 => 25 | 23 => 3 | 25 => 61 | 3 => 3 | 0 => 0 | 4 => 4 | n => n, fun | n => n⟩
theorem Try.laysSlH6_f69 : Go.Proofs.SlLaysH.n6 Try.prog Try.laysSlH6_f69_ren := {
  mixed := by kernel_rfl
  f6 := ⟨Try.f69.name, by decide, Try.func69.trans (congrArg some (by kernel_rfl))⟩
  t0 := Try.underlying0
  a0 := Try.isAgg0
  z0 := Try.sizeOf0
  v0 := Try.zeroValue0
  t3 := Try.underlying3
  a3 := Try.isAgg3
  z3 := Try.sizeOf3
  v3 := Try.zeroValue3
  t4 := Try.underlying4
  a4 := Try.isAgg4
  z4 := Try.sizeOf4
  v4 := Try.zeroValue4
  t22 := Try.underlying25
  a22 := Try.isAgg25
  z22 := Try.sizeOf25
  v22 := Try.zeroValue25
  a23 := Try.isAgg3
  z23 := Try.sizeOf3
  t25 := Try.underlying61
  a25 := Try.isAgg61
  z25 := Try.sizeOf61
  v25 := Try.zeroValue61 }
def Try.laysSlH8_f46_ren : Go.Shelf.Ren := ⟨fun | 8 => 46 | 6 => 69 | n => n, fun | 22 => 25 | 23 => 3 | 25 => 61 | 4 => 4 | 3 => 3 | 0 => 0 | n => n, fun | n => n⟩
theorem Try.laysSlH8_f46 : Go.Proofs.SlLaysH.n8 Try.prog Try.laysSlH8_f46_ren := {
  mixed := by kernel_rfl
  f6 := ⟨Try.f69.name, by decide, Try.func69.trans (congrArg some (by kernel_rfl))⟩
  f8 := ⟨Try.f46.name, by decide, Try.func46.trans (congrArg some (by kernel_rfl))⟩
  t0 := Try.underlying0
  a0 := Try.isAgg0
  z0 := Try.sizeOf0
  v0 := Try.zeroValue0
  t3 := Try.underlying3
  a3 := Try.isAgg3
  z3 := Try.sizeOf3
  v3 := Try.zeroValue3
  t4 := Try.underlying4
  a4 := Try.isAgg4
  z4 := Try.sizeOf4
  v4 := Try.zeroValue4
  t22 := Try.underlying25
  a22 := Try.isAgg25
  z22 := Try.sizeOf25
  v22 := Try.zeroValue25
  a23 := Try.isAgg3
  z23 := Try.sizeOf3
  t25 := Try.underlying61
  a25 := Try.isAgg61
  z25 := Try.sizeOf61
  v25 := Try.zeroValue61 }
end Go.Proofs
