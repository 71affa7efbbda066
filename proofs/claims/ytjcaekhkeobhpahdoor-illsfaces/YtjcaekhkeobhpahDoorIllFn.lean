/-
  PROVED HERE: package ills: whether a pair is of two kinds, whether its later op is a Write that is lost, whether there is a pair of two kinds. Old memory stays as it was.
  Conditions: the slice is no longer than its capacity; the pair's places are places.
-/
import Derived.Test.YtjcaekhkeobhpahDoorIllEnd
import Derived.Test.YtjcaekhkeobhpahDoorOpContains
namespace Go.Proofs.YtjcaekhkeobhpahDoor
open Go.RowKit

theorem call_kind : ∀ (args : Array Value) (W : World), (callFunc 19 args).run Tryd.prog W = .ok (.enter 19 args) W := fun args W => by kernel_rfl
theorem call_has : ∀ (args : Array Value) (W : World), (callFunc 17 args).run Tryd.prog W = .ok (.enter 17 args) W := fun args W => by kernel_rfl
theorem call_lost : ∀ (args : Array Value) (W : World), (callFunc 20 args).run Tryd.prog W = .ok (.enter 20 args) W := fun args W => by kernel_rfl
set_option maxHeartbeats 8000000 in
theorem kind_fn (l : List Op3) (ad : Option Addr) (cap i j H F T : Nat) (a b : Int) (w : World) (hI : IsOps w (.slice ad l.length cap) l) (hi : i < l.length) (hj : j < l.length) (k : w.cell? ⟨H, 0, none⟩ = some (.slice ad l.length cap)) (kf : w.cell? ⟨F, 0, none⟩ = some (.int .i64 a)) (kt : w.cell? ⟨T, 0, none⟩ = some (.int .i64 b)) :
    Calls Tryd.prog 19 (#[.agg #[.int .i64 (i : Int), .int .i64 (j : Int)]] ++ #[.pointer (some ⟨H, 0, none⟩), .pointer (some ⟨F, 0, none⟩), .pointer (some ⟨T, 0, none⟩)]) w fun e w' => e = .returned (.bool (kindE l a b ((i : Int), (j : Int)))) ∧ Below w.heap.size w w' := by
  obtain ⟨bb, off, rfl, hb, hops⟩ := ops_open hI (by omega)
  obtain ⟨-, c1, -⟩ := hops i hi
  obtain ⟨-, d1, -⟩ := hops j hj
  have HK : Hid (kindE l a b ((i : Int), (j : Int)) = ((opAt l i).2.1 == a && (opAt l j).2.1 == b)) := by
    show kindE _ _ _ _ = _
    unfold kindE
    simp only [Int.toNat_natCast]
  obtain ⟨x, hx⟩ : ∃ x, (opAt l i).2.1 = x := ⟨_, rfl⟩
  obtain ⟨y, hy⟩ : ∃ y, (opAt l j).2.1 = y := ⟨_, rfl⟩
  rw [hx, hy] at HK
  have c1' : w.cell? ⟨bb, off + i * 3 + 1, none⟩ = some (.int .i64 x) := by rw [← hx]; exact c1
  have d1' : w.cell? ⟨bb, off + j * 3 + 1, none⟩ = some (.int .i64 y) := by rw [← hy]; exact d1
  have l1 := World.block_lt_of_cell? w _ k
  have l2 := World.block_lt_of_cell? w _ kf
  have l3 := World.block_lt_of_cell? w _ kt
  simp only at l1 l2 l3
  obtain ⟨n, hn⟩ : ∃ n, l.length = n := ⟨_, rfl⟩
  rw [hn] at k hi hj
  have hi' : (i : Int) < (n : Int) := by omega
  have hj' : (j : Int) < (n : Int) := by omega
  clear c1 d1 hops hI hx hy hn
  go_enter Tryd.func19, Tryd.ntmps19
  go_upto_region 1 with (fail)
  obtain ⟨W, hW⟩ : ∃ W, W = w.alloc (.cells #[.int .i64 (i : Int), .int .i64 (j : Int)] 55) := ⟨_, rfl⟩
  rw [← hW]
  have hbW : Below w.heap.size w W := by rw [hW]; exact (Below.refl _ w).alloc (Nat.le_refl _) _
  have p0 : W.cell? ⟨w.heap.size, 0, none⟩ = some (.int .i64 (i : Int)) := by rw [hW]; simp
  have p1 : W.cell? ⟨w.heap.size, 1, none⟩ = some (.int .i64 (j : Int)) := by rw [hW]; simp
  have k1 := (hbW.cell (p := ⟨H, 0, none⟩) l1).trans k
  have k2 := (hbW.cell (p := ⟨F, 0, none⟩) l2).trans kf
  have k3 := (hbW.cell (p := ⟨T, 0, none⟩) l3).trans kt
  have e1 := (hbW.cell (p := ⟨bb, off + i * 3 + 1, none⟩) hb).trans c1'
  have e2 := (hbW.cell (p := ⟨bb, off + j * 3 + 1, none⟩) hb).trans d1'
  obtain ⟨P, hP⟩ : ∃ P, P = w.heap.size := ⟨_, rfl⟩
  rw [← hP] at p0 p1 ⊢
  have HB : Hid (∀ m, Below w.heap.size w (W.drewN m)) := fun m => below_drewN hbW m
  clear hW hbW hP c1' d1' k kf kt l1 l2 l3 hb
  cases h1 : (x == a) with
  | false =>
    go_quiet (fail)
    go_wp2_with fail
    go_ret
    exact ⟨ret_bool (by rw [HK.out, h1]; rfl), HB.out _⟩
  | true =>
    cases h2 : (y == b) with
    | false =>
      go_quiet (fail)
      go_wp2_with fail
      go_ret
      exact ⟨ret_bool (by rw [HK.out, h1, h2]; rfl), HB.out _⟩
    | true =>
      go_quiet (fail)
      go_wp2_with fail
      go_ret
      exact ⟨ret_bool (by rw [HK.out, h1, h2]; rfl), HB.out _⟩
set_option maxHeartbeats 8000000 in
theorem has_fn (l : List Op3) (es : List Edge2) (v : Value) (ad : Option Addr) (cap H O : Nat) (a b : Int) (w : World) (hI : IsOps w (.slice ad l.length cap) l) (hE : IsEdges w v es) (hes : es.length ≤ 1600) (hin : ∀ e ∈ es, ∃ i j : Nat, i < j ∧ j < l.length ∧ e = ((i : Int), (j : Int))) (k : w.cell? ⟨H, 0, none⟩ = some (.slice ad l.length cap)) (ko : w.cell? ⟨O, 0, none⟩ = some v) :
    Calls Tryd.prog 17 (#[.int .i64 a, .int .i64 b] ++ #[.pointer (some ⟨O, 0, none⟩), .pointer (some ⟨H, 0, none⟩)]) w fun e w' => e = .returned (.bool (es.any (kindE l a b))) ∧ Below w.heap.size w w' := by
  obtain ⟨vad, vn, vcap, rfl⟩ : ∃ vad vn vcap, v = .slice vad vn vcap := by
    obtain ⟨ad, _, _, cap, hv, _⟩ := hE
    exact ⟨ad, _, cap, hv⟩
  have l1 := World.block_lt_of_cell? w _ k
  have l2 := World.block_lt_of_cell? w _ ko
  simp only at l1 l2
  obtain ⟨g, hg⟩ : ∃ g, es.any (kindE l a b) = g := ⟨_, rfl⟩
  have HC : Hid (∀ V F T, Below w.heap.size w V → V.cell? ⟨F, 0, none⟩ = some (.int .i64 a) → V.cell? ⟨T, 0, none⟩ = some (.int .i64 b) → Calls Tryd.prog 18 #[.slice vad vn vcap, .func (.func 19) #[] #[.pointer (some ⟨H, 0, none⟩), .pointer (some ⟨F, 0, none⟩), .pointer (some ⟨T, 0, none⟩)]] V fun e w' => e = .returned (.bool g) ∧ Below V.heap.size V w') := fun V F T hV kf kt => by
    rw [← hg]
    refine contains_edge es _ (kindE l a b) 19 #[.pointer (some ⟨H, 0, none⟩), .pointer (some ⟨F, 0, none⟩), .pointer (some ⟨T, 0, none⟩)] V call_kind (hE.below hV (Nat.le_refl _)) (by omega) (fun W2 hW2 e he => ?_)
    obtain ⟨i, j, hij, hj, rfl⟩ := hin e he
    have hV2 : Below w.heap.size w W2 := hV.trans (hW2.mono hV.size)
    exact kind_fn l ad cap i j H F T a b W2 (hI.below hV2 (Nat.le_refl _)) (by omega) hj ((hV2.cell (p := ⟨H, 0, none⟩) l1).trans k) ((hW2.cell (p := ⟨F, 0, none⟩) (World.block_lt_of_cell? V _ kf)).trans kf) ((hW2.cell (p := ⟨T, 0, none⟩) (World.block_lt_of_cell? V _ kt)).trans kt)
  rw [hg]
  clear hE hes hin hI hg k l1
  go_enter Tryd.func17, Tryd.ntmps17
  go_upto_region 1 with (fail)
  obtain ⟨W, hW⟩ : ∃ W, W = (w.alloc (.cells #[.int .i64 a] 3)).alloc (.cells #[.int .i64 b] 3) := ⟨_, rfl⟩
  have hbW : Below w.heap.size w W := by rw [hW]; exact ((Below.refl _ w).alloc (Nat.le_refl _) _).alloc (by simp) _
  have p0 : W.cell? ⟨w.heap.size, 0, none⟩ = some (.int .i64 a) := by rw [hW]; simp
  have p1 : W.cell? ⟨w.heap.size + 1, 0, none⟩ = some (.int .i64 b) := by rw [hW]; simp
  have o0 := (hbW.cell (p := ⟨O, 0, none⟩) l2).trans ko
  have HCW := hid_e (HC.out W _ _ hbW p0 p1)
  have HBW := hid_e hbW
  have hsz : (w.alloc (.cells #[.int .i64 a] 3)).heap.size = w.heap.size + 1 := by simp
  rw [← hW]
  try rw [hsz]
  clear hW hbW p0 p1 HC hsz ko l2
  go_wp2_with fail
  refine HCW.out.mono ?_
  rintro e w1 ⟨rfl, hb1⟩
  have HB1 : Hid (Below w.heap.size w w1) := HBW.out.trans (hb1.mono HBW.out.size)
  clear hb1
  go_wp2_with fail
  go_ret
  exact ⟨rfl, HB1.out⟩
set_option maxHeartbeats 8000000 in
set_option maxRecDepth 100000 in
theorem lost_fn (l : List Op3) (ad : Option Addr) (cap i j : Nat) (w : World) (hI : IsOps w (.slice ad l.length cap) l) (hcap : l.length ≤ cap) (hl : l.length ≤ 40) (hij : i < j) (hj : j < l.length) :
    Calls Tryd.prog 21 #[.slice ad l.length cap, .agg #[.int .i64 (i : Int), .int .i64 (j : Int)]] w fun e w' => e = .returned (.bool (lostE l ((i : Int), (j : Int)))) ∧ Below w.heap.size w w' := by
  obtain ⟨b, off, rfl, hb, hops⟩ := ops_open hI (by omega)
  obtain ⟨A, c, hrun0, hon⟩ := cut_on (i := j + 1) hops hb hcap (by omega)
  have hrun : ∀ W, (Instr.sliceAt 22 (.slice (some ⟨b, off, none⟩) l.length cap) (some (.int .i64 ((j : Int) + 1))) none none).run Tryd.prog W = .ok (.slice A (l.length - (j + 1)) c) W := hrun0
  obtain ⟨⟨t, a, x⟩, ho⟩ : ∃ o : Op3, opAt l i = o := ⟨_, rfl⟩
  obtain ⟨c0, c1, c2⟩ := hops i (by omega)
  have ho' : l.getD i (0, 0, 0) = (t, a, x) := ho
  rw [ho'] at c0 c1 c2
  simp only at c0 c1 c2
  obtain ⟨ms, hms⟩ : ∃ ms, l.drop (j + 1) = ms := ⟨_, rfl⟩
  have hml : ms.length ≤ 40 := by rw [← hms, List.length_drop]; omega
  have HL : Hid (lostE l ((i : Int), (j : Int)) = (a == 1 && (ms.contains (t, 2, x) && ms.contains (t, 3, 0)))) := by
    show lostE _ _ = _
    unfold lostE
    simp only [Int.toNat_natCast, ho, hms]
  rw [hms] at hon
  obtain ⟨d, hd⟩ : ∃ d, l.length - (j + 1) = d := ⟨_, rfl⟩
  rw [hd] at hrun hon
  obtain ⟨n, hn⟩ : ∃ n, l.length = n := ⟨_, rfl⟩
  rw [hn] at hrun hj hl ⊢
  have HCN : Hid (∀ V, Below w.heap.size w V → ∀ p q r : Int, Calls Tryd.prog 42 #[.slice A d c, .agg #[.int .i64 p, .int .i64 q, .int .i64 r]] V fun e w' => e = .returned (.bool (ms.contains (p, q, r))) ∧ Below V.heap.size V w') := fun V hV p q r => contains_opE ms _ (p, q, r) V (hon.below hV (Nat.le_refl _)) (by omega)
  have hi' : (i : Int) < (n : Int) := by omega
  have hwr : IntKind.i64.wrap ((j : Int) + 1) = (j : Int) + 1 := by rw [IntKind.wrap_i64]; omega
  clear hrun0 hon hops hI hcap ho ho' hms hml hd hn
  go_enter Tryd.func21, Tryd.ntmps21
  go_upto_region 1 with (fail)
  obtain ⟨W, hW⟩ : ∃ W, W = w.alloc (.cells #[.int .i64 (i : Int), .int .i64 (j : Int)] 55) := ⟨_, rfl⟩
  rw [← hW]
  have hbW : Below w.heap.size w W := by rw [hW]; exact (Below.refl _ w).alloc (Nat.le_refl _) _
  have p0 : W.cell? ⟨w.heap.size, 0, none⟩ = some (.int .i64 (i : Int)) := by rw [hW]; simp
  have p1 : W.cell? ⟨w.heap.size, 1, none⟩ = some (.int .i64 (j : Int)) := by rw [hW]; simp
  have e0 := (hbW.cell (p := ⟨b, off + i * 3, none⟩) hb).trans c0
  have e1 := (hbW.cell (p := ⟨b, off + i * 3 + 1, none⟩) hb).trans c1
  have e2 := (hbW.cell (p := ⟨b, off + i * 3 + 2, none⟩) hb).trans c2
  obtain ⟨P, hP⟩ : ∃ P, P = w.heap.size := ⟨_, rfl⟩
  have hPW : P < W.heap.size := by rw [hP]; exact World.block_lt_of_cell? W _ p0
  have hbl : b < W.heap.size := Nat.lt_of_lt_of_le hb hbW.size
  rw [← hP] at p0 p1 ⊢
  have HBW := hid_e hbW
  have HPP := hid_e hP
  clear hW hbW hP c0 c1 c2 hb
  go_region
  obtain ⟨V, hV⟩ : ∃ V, V = (W.alloc (.cells #[.int .i64 t, .int .i64 a, .int .i64 x] 37)).drew := ⟨_, rfl⟩
  obtain ⟨Q, hQ⟩ : ∃ Q, Q = W.heap.size := ⟨_, rfl⟩
  rw [← hV, ← hQ]
  have q0 : V.cell? ⟨Q, 0, none⟩ = some (.int .i64 t) := by rw [hV, hQ]; simp
  have q1 : V.cell? ⟨Q, 1, none⟩ = some (.int .i64 a) := by rw [hV, hQ]; simp
  have q2 : V.cell? ⟨Q, 2, none⟩ = some (.int .i64 x) := by rw [hV, hQ]; simp
  have hQV := World.block_lt_of_cell? V _ q0
  simp only at hQV
  have HBV : Hid (Below w.heap.size w V) := by show Below _ _ _; rw [hV]; exact (HBW.out.alloc HBW.out.size _).drew
  clear hV hQ e0 e1 e2 p0 p1 hPW hbl HBW HPP hrun hwr hi' hj hl hij
  go_upto_region 3 with (fail)
  obtain ⟨U, hU⟩ : ∃ U, U = V.alloc (.cells #[.int .i64 t, .int .i64 2, .int .i64 x] 37) := ⟨_, rfl⟩
  obtain ⟨S, hS⟩ : ∃ S, S = V.heap.size := ⟨_, rfl⟩
  rw [← hU, ← hS]
  have u0 : U.cell? ⟨S, 0, none⟩ = some (.int .i64 t) := by rw [hU, hS]; simp
  have u1 : U.cell? ⟨S, 1, none⟩ = some (.int .i64 2) := by rw [hU, hS]; simp
  have u2 : U.cell? ⟨S, 2, none⟩ = some (.int .i64 x) := by rw [hU, hS]; simp
  have hVU : Below V.heap.size V U := by rw [hU]; exact (Below.refl _ V).alloc (Nat.le_refl _) _
  have r0 := (hVU.cell (p := ⟨Q, 0, none⟩) hQV).trans q0
  have r1 := (hVU.cell (p := ⟨Q, 1, none⟩) hQV).trans q1
  have HBU : Hid (Below w.heap.size w U) := HBV.out.trans (hVU.mono HBV.out.size)
  have HQU : Hid (Q < U.heap.size) := Nat.lt_of_lt_of_le hQV hVU.size
  clear hU hS q0 q1 q2 hVU hQV HBV
  cases h1 : (a == 1) with
  | false =>
    rw [h1] at HL
    go_wp2_with fail
    go_ret
    exact ⟨by rw [HL.out]; rfl, HBU.out⟩
  | true =>
    rw [h1] at HL
    cases h2 : ms.contains (t, 2, x) with
    | false =>
      rw [h2] at HL
      have HC1 := hid_e (HCN.out U HBU.out t 2 x)
      rw [h2] at HC1
      clear h2 HCN
      go_wp2_with fail
      refine HC1.out.mono ?_
      rintro e w1 ⟨rfl, hb1⟩
      have HB1 : Hid (Below w.heap.size w w1) := HBU.out.trans (hb1.mono HBU.out.size)
      clear hb1 u0 u1 u2 r0 r1
      go_wp2_with fail
      go_ret
      exact ⟨by rw [HL.out]; rfl, HB1.out⟩
    | true =>
      rw [h2] at HL
      have HC1 := hid_e (HCN.out U HBU.out t 2 x)
      rw [h2] at HC1
      clear h2
      go_wp2_with fail
      refine HC1.out.mono ?_
      rintro e w1 ⟨rfl, hb1⟩
      have HB1 : Hid (Below w.heap.size w w1) := HBU.out.trans (hb1.mono HBU.out.size)
      have s0 := (hb1.cell (p := ⟨Q, 0, none⟩) HQU.out).trans r0
      have HC2 := hid_e (HCN.out w1 HB1.out t 3 0)
      obtain ⟨g, hg⟩ : ∃ g, ms.contains (t, 3, 0) = g := ⟨_, rfl⟩
      rw [hg] at HC2 HL
      clear hb1 u0 u1 u2 r0 r1 hg HCN
      go_wp2_with fail
      refine HC2.out.mono ?_
      rintro e w2 ⟨rfl, hb2⟩
      have HB2 : Hid (Below w.heap.size w w2) := HB1.out.trans (hb2.mono HB1.out.size)
      clear hb2 s0
      go_wp2_with fail
      go_ret
      exact ⟨by rw [HL.out]; rfl, HB2.out⟩
set_option maxHeartbeats 8000000 in
theorem lost2_fn (l : List Op3) (ad : Option Addr) (cap i j H : Nat) (w : World) (hI : IsOps w (.slice ad l.length cap) l) (hcap : l.length ≤ cap) (hl : l.length ≤ 40) (hij : i < j) (hj : j < l.length) (k : w.cell? ⟨H, 0, none⟩ = some (.slice ad l.length cap)) :
    Calls Tryd.prog 20 (#[.agg #[.int .i64 (i : Int), .int .i64 (j : Int)]] ++ #[.pointer (some ⟨H, 0, none⟩)]) w fun e w' => e = .returned (.bool (lostE l ((i : Int), (j : Int)))) ∧ Below w.heap.size w w' := by
  have HC : Hid (∀ V, Below w.heap.size w V → Calls Tryd.prog 21 #[.slice ad l.length cap, .agg #[.int .i64 (i : Int), .int .i64 (j : Int)]] V fun e w' => e = .returned (.bool (lostE l ((i : Int), (j : Int)))) ∧ Below V.heap.size V w') := fun V hV => lost_fn l ad cap i j V (hI.below hV (Nat.le_refl _)) hcap hl hij hj
  obtain ⟨g, hg⟩ : ∃ g, lostE l ((i : Int), (j : Int)) = g := ⟨_, rfl⟩
  obtain ⟨n, hn⟩ : ∃ n, l.length = n := ⟨_, rfl⟩
  have l1 := World.block_lt_of_cell? w _ k
  simp only at l1
  rw [hg, hn] at HC
  rw [hn] at k
  rw [hg]
  clear hI hcap hl hij hj hg hn
  go_enter Tryd.func20, Tryd.ntmps20
  go_upto_region 1 with (fail)
  obtain ⟨W, hW⟩ : ∃ W, W = w.alloc (.cells #[.int .i64 (i : Int), .int .i64 (j : Int)] 55) := ⟨_, rfl⟩
  rw [← hW]
  have hbW : Below w.heap.size w W := by rw [hW]; exact (Below.refl _ w).alloc (Nat.le_refl _) _
  have p0 : W.cell? ⟨w.heap.size, 0, none⟩ = some (.int .i64 (i : Int)) := by rw [hW]; simp
  have p1 : W.cell? ⟨w.heap.size, 1, none⟩ = some (.int .i64 (j : Int)) := by rw [hW]; simp
  have k1 := (hbW.cell (p := ⟨H, 0, none⟩) l1).trans k
  have HBW := hid_e hbW
  clear hW hbW k l1
  go_wp2_with fail
  refine (HC.out W HBW.out).mono ?_
  rintro e w1 ⟨rfl, hb1⟩
  have HB1 : Hid (Below w.heap.size w w1) := HBW.out.trans (hb1.mono HBW.out.size)
  clear hb1 p0 p1 k1
  go_wp2_with fail
  go_ret
  exact ⟨rfl, HB1.out⟩
end Go.Proofs.YtjcaekhkeobhpahDoor
