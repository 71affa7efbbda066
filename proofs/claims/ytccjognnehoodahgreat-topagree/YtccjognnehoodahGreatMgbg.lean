/-
  PROVED HERE: nothing yet: what slices.DeleteFunc is asked at a row of whole numbers, for any closure.
  Conditions: none.
  PROVED HERE: package versions: its rules, as package course calls them (one of them a method that is bound to all deals); its Run keeps what it is asked (RunsC). Old memory stays as it was.
  Conditions: what slices.Sort and slices.DeleteFunc do are premises (SortC, DelC).
-/
import Derived.Test.YtccjognnehoodahGreatMgac
import Derived.Shelf.GgClosure.Gives
import Derived.Test.YtccjognnehoodahGreatMgbe
import Derived.Test.YtccjognnehoodahGreatMgba
import Derived.Test.YtccjognnehoodahGreatMgbf
namespace Go.Proofs.YtccjognnehoodahGreat
open Go.RowKit

/-- What slices.DeleteFunc is asked at a row of numbers of one's own. -/
def DelC : Prop := ∀ (ds : List Int) (p : Int → Bool) (N : Nat) (C : Array Value) (v : Value) (base n : Nat) (w : World), ds.length = n → ds.length ≤ 1000 → w.ownsRow base 3 1 v n (ds.map (Value.int .i64)) →
  (∀ (args : Array Value) (W : World), (callFunc N args).run Tryz.prog W = .ok (.enter N args) W) →
  (∀ W x, w.grownBy W v.ownBlock → Calls Tryz.prog N (#[.int .i64 x] ++ C) W fun e w' => e = .returned (.bool (p x)) ∧ ∃ q, w' = W.drewN q) →
  Calls Tryz.prog 48 #[v, .func (.func N) #[] C] w fun e w' => ∃ v', e = .returned v' ∧ IsInts w' v' (ds.filter fun x => !p x) ∧ w.grownBy w' v.ownBlock
end Go.Proofs.YtccjognnehoodahGreat

namespace Go.Proofs.YtccjognnehoodahGreat
open Go.RowKit

set_option maxHeartbeats 4000000 in
set_option maxRecDepth 100000 in
theorem late2_fn {w0 w : World} {R : Nat} {S F : Value} {q : Crs} {c : CLay} (h : CrsAt w0 w R S F q c) (hq : CrsOk 1000 q) {t : Int} (h1 : 1 ≤ t) (h6 : t ≤ 6) (x : Op3) (P1 P2 : Nat) (k1 : w.cell? ⟨P1, 0, none⟩ = some (.int .i64 t)) (k2 : w.cell? ⟨P2, 0, none⟩ = some (.pointer (some ⟨R, 0, none⟩))) :
    Calls Tryz.prog 72 (#[seV x] ++ #[.pointer (some ⟨P1, 0, none⟩), .pointer (some ⟨P2, 0, none⟩)]) w fun e w' => e = .returned (.bool (lateB q t x)) ∧ Below w.heap.size w w' := by
  obtain ⟨a, i, f⟩ := x
  have HC : Hid (∀ W, Below w.heap.size w W → Calls Tryz.prog 63 #[.pointer (some ⟨R, 0, none⟩), .int .i64 t, .int .i64 i] W fun e w' => e = .returned (.bool (inB (q.wrote t) i)) ∧ w' = W) := fun W hW => wrote_crs (h.below hW) h1 h6 i (hq.lenW _)
  have l1 := World.block_lt_of_cell? w _ k1
  have l2 := World.block_lt_of_cell? w _ k2
  unfold seV lateB
  simp only at l1 l2
  clear h hq h1 h6
  by_cases hf : f < t
  · rw [decide_eq_true hf]
    go_enter Tryz.func72, Tryz.ntmps72
    go_wp2_with (go_at_call 63; refine (HC.out _ ((Below.refl _ w).alloc (Nat.le_refl _) _)).mono ?_; rintro e w1 ⟨rfl, hw1⟩; rw [hw1]; clear hw1)
    go_ret
    exact ⟨rfl, (Below.refl _ w).alloc (Nat.le_refl _) _⟩
  · rw [decide_eq_false hf]
    go_enter Tryz.func72, Tryz.ntmps72
    go_wp2_with fail
    go_ret
    exact ⟨rfl, (Below.refl _ w).alloc (Nat.le_refl _) _⟩
theorem call_late2 : RuleFn 72 := fun _ _ => by kernel_rfl
theorem call_late1 : RuleFn 71 := fun _ _ => by kernel_rfl
set_option maxHeartbeats 4000000 in
set_option maxRecDepth 100000 in
theorem late1_fn {w0 w : World} {R : Nat} {S F : Value} {q : Crs} {c : CLay} (h : CrsAt w0 w R S F q c) (hq : CrsOk 1000 q) {t : Int} (h1 : 1 ≤ t) (h6 : t ≤ 6) (o : Int) (ho1 : 1 ≤ o) (ho6 : o ≤ 6) (P1 P2 : Nat) (k1 : w.cell? ⟨P1, 0, none⟩ = some (.int .i64 t)) (k2 : w.cell? ⟨P2, 0, none⟩ = some (.pointer (some ⟨R, 0, none⟩))) :
    Calls Tryz.prog 71 (#[.int .i64 o] ++ #[.pointer (some ⟨P1, 0, none⟩), .pointer (some ⟨P2, 0, none⟩)]) w fun e w' => e = .returned (.bool (lateO q t o)) ∧ Below w.heap.size w w' := by
  have HR := hid_q (read_crs h ho1 ho6 (hq.lenR o))
  have HC : Hid (∀ W, Below w.heap.size w W → ∀ v, IsOps W v (q.read o) → Calls Tryz.prog 61 #[v, .func (.func 72) #[] #[.pointer (some ⟨P1, 0, none⟩), .pointer (some ⟨P2, 0, none⟩)]] W fun r w' => r = .returned (.bool ((q.read o).any (lateB q t))) ∧ Below W.heap.size W w') := fun W hW v hv => by
    refine contains_seen (q.read o) v _ _ _ W call_late2 hv (by have := hq.lenR o; omega) fun W2 hW2 e _ => ?_
    have hW3 : Below w.heap.size w W2 := hW.trans (hW2.mono hW.size)
    exact late2_fn (h.below hW3) hq h1 h6 e P1 P2 ((hW3.cell (p := ⟨P1, 0, none⟩) (World.block_lt_of_cell? w _ k1)).trans k1) ((hW3.cell (p := ⟨P2, 0, none⟩) (World.block_lt_of_cell? w _ k2)).trans k2)
  have l1 := World.block_lt_of_cell? w _ k1
  have l2 := World.block_lt_of_cell? w _ k2
  unfold lateO
  simp only at l1 l2
  obtain ⟨n, hn⟩ : ∃ n, (q.read o).length = n := ⟨_, rfl⟩
  rw [hn] at HR
  have HN := hid_q hn
  obtain ⟨r, hr⟩ : ∃ r, (q.read o).any (lateB q t) = r := ⟨_, rfl⟩
  rw [hr] at HC ⊢
  clear h hq h1 h6 ho1 ho6 hn hr
  by_cases hf : t < o
  · rw [decide_eq_true hf]
    go_enter Tryz.func71, Tryz.ntmps71
    go_wp2_with fail
    refine HR.out.mono ?_
    rintro e w1 ⟨v1, rfl, ho1, hb1⟩
    have HCC := hid_q (HC.out w1 hb1 v1 (isOps_row ho1 HN.out))
    have HB1 := hid_q hb1
    obtain ⟨ad1, c1, rfl, -⟩ := own_slice3 ho1
    clear ho1 hb1
    go_wp2_with fail
    refine HCC.out.mono ?_
    rintro e w2 ⟨rfl, hb2⟩
    have HB2 : Hid (Below w.heap.size w w2) := HB1.out.trans (hb2.mono HB1.out.size)
    clear hb2
    go_wp2_with fail
    go_ret
    exact ⟨rfl, HB2.out⟩
  · rw [decide_eq_false hf]
    go_enter Tryz.func71, Tryz.ntmps71
    go_wp2_with fail
    go_ret
    exact ⟨rfl, Below.refl _ w⟩
theorem call_late : RuleFn 32 := fun _ _ => by kernel_rfl
set_option maxHeartbeats 4000000 in
set_option maxRecDepth 100000 in
theorem fallN_c (ds : List Int) (dv : Value) (h6d : ∀ t ∈ ds, 1 ≤ t ∧ t ≤ 6) (hld : ds.length ≤ 1000) : FallK (fun W => IsInts W dv ds) 32 #[dv] #[] (fallN ds) := by
  intro w0 w R S F q c t hK h hq h1 h6 hb
  have hq' := hq.more
  have hI : IsInts w dv ds := hK.below h.old (Nat.le_refl _)
  have HC : Hid (∀ W, Below w.heap.size w W → ∀ P1 P2, W.cell? ⟨P1, 0, none⟩ = some (.int .i64 t) → W.cell? ⟨P2, 0, none⟩ = some (.pointer (some ⟨R, 0, none⟩)) → Calls Tryz.prog 70 #[dv, .func (.func 71) #[] #[.pointer (some ⟨P1, 0, none⟩), .pointer (some ⟨P2, 0, none⟩)]] W fun r w' => r = .returned (.bool (fallN ds q t)) ∧ Below W.heap.size W w') := fun W hW P1 P2 k1 k2 => by
    refine contains_dealC ds dv _ _ _ W call_late1 (hI.below hW (Nat.le_refl _)) (by omega) fun W2 hW2 e he => ?_
    exact late1_fn (h.below (hW.trans (hW2.mono hW.size))) hq' h1 h6 e (h6d e he).1 (h6d e he).2 P1 P2 ((hW2.cell (p := ⟨P1, 0, none⟩) (World.block_lt_of_cell? W _ k1)).trans k1) ((hW2.cell (p := ⟨P2, 0, none⟩) (World.block_lt_of_cell? W _ k2)).trans k2)
  obtain ⟨ad, b, off, cap, rfl, -⟩ := hI
  obtain ⟨n, hn⟩ : ∃ n, ds.length = n := ⟨_, rfl⟩
  rw [hn] at HC ⊢
  show Calls Tryz.prog 32 #[.slice ad n cap, .pointer (some ⟨R, 0, none⟩), .int .i64 t] w _
  obtain ⟨r, hr⟩ : ∃ r, fallN ds q t = r := ⟨_, rfl⟩
  rw [hr] at HC ⊢
  obtain ⟨W0, hW0⟩ : ∃ W, W = (w.alloc (.cells #[.pointer (some ⟨R, 0, none⟩)] 69)).alloc (.cells #[.int .i64 t] 3) := ⟨_, rfl⟩
  have hb0 : Below w.heap.size w W0 := by rw [hW0]; exact ((Below.refl _ w).alloc (Nat.le_refl _) _).alloc (by simp) _
  have c2 : W0.cell? ⟨w.heap.size, 0, none⟩ = some (.pointer (some ⟨R, 0, none⟩)) := by rw [hW0]; exact ((Boxed.new w 69 (.pointer (some ⟨R, 0, none⟩))).alloc _).cell
  have c1 : W0.cell? ⟨w.heap.size + 1, 0, none⟩ = some (.int .i64 t) := by
    have := (Boxed.new (w.alloc (.cells #[.pointer (some ⟨R, 0, none⟩)] 69)) 3 (.int .i64 t)).cell
    rw [World.size_alloc] at this
    rw [hW0]; exact this
  have HCC := hid_q (HC.out W0 hb0 _ _ c1 c2)
  have HB0 := hid_q hb0
  clear h hq hq' h1 h6 hb hn hr hK c1 c2 hb0 HC
  go_enter Tryz.func32, Tryz.ntmps32
  go_upto_region 1 with (fail)
  rw [← hW0]
  clear hW0
  go_wp2_with fail
  refine HCC.out.mono ?_
  rintro e w1 ⟨rfl, hb1⟩
  have HB1 : Hid (Below w.heap.size w w1) := HB0.out.trans (hb1.mono HB0.out.size)
  clear hb1
  go_wp2_with fail
  go_ret
  exact ⟨rfl, HB1.out⟩
set_option maxHeartbeats 4000000 in
set_option maxRecDepth 100000 in
theorem byNumber_fn (hSort : SortC) {w0 w : World} {R : Nat} {S F : Value} {q : Crs} {c : CLay} (h : CrsAt w0 w R S F q c) (hl : q.done.length ≤ 1000) :
    Calls Tryz.prog 34 #[.pointer (some ⟨R, 0, none⟩)] w fun e w' => ∃ v, e = .returned v ∧ w'.ownsRow w.heap.size 3 1 v q.done.length ((sortI q.done).map (Value.int .i64)) ∧ Below w.heap.size w w' := by
  have HD := hid_q (done_crs h hl)
  have HS : Hid (∀ (W : World) (ad : Option Addr) (cap : Nat), IsInts W (.slice ad q.done.length cap) q.done → Calls Tryz.prog 73 #[.func (.func 108) #[] #[.pointer (some ⟨W.heap.size, 0, none⟩)]] (W.alloc (.cells #[.slice ad q.done.length cap] 28)) fun e w' => ∃ v, e = .returned v ∧ w'.ownsRow W.heap.size 3 1 v q.done.length ((sortI q.done).map (Value.int .i64)) ∧ Below W.heap.size W w') := fun W ad cap hI => sorted_fn hSort q.done ad _ cap W hI rfl hl
  obtain ⟨n, hn⟩ : ∃ n, q.done.length = n := ⟨_, rfl⟩
  rw [hn] at HD HS ⊢
  have HN := hid_q hn
  clear h hl hn hSort
  go_enter Tryz.func34, Tryz.ntmps34
  go_wp2_with fail
  refine HD.out.mono ?_
  rintro e w1 ⟨v1, rfl, ho1, hb1⟩
  have HB1 := hid_q hb1
  have hi1 := isInts_own ho1 HN.out
  obtain ⟨ad1, c1, rfl, -⟩ := own_slice3 ho1
  have HSS := hid_q (HS.out w1 ad1 c1 hi1)
  clear ho1 hb1 hi1
  go_wp2_with fail
  refine (values_fn ad1 n c1 w1).mono ?_
  rintro e w2 ⟨rfl, rfl⟩
  go_wp2_with fail
  refine HSS.out.mono ?_
  rintro e w3 ⟨v3, rfl, ho3, hb3⟩
  have HO3 := hid_q (own_less ho3 HB1.out.size)
  have HB3 : Hid (Below w.heap.size w w3) := HB1.out.trans (hb3.mono HB1.out.size)
  obtain ⟨ad3, c3, rfl, -⟩ := own_slice3 ho3
  clear ho3 hb3
  go_wp2_with fail
  go_ret
  exact ⟨_, rfl, HO3.out, HB3.out⟩
theorem call_less : RuleFn 68 := fun _ _ => by kernel_rfl
theorem less_fn (t x : Int) (P : Nat) (W : World) (k : W.cell? ⟨P, 0, none⟩ = some (.int .i64 t)) :
    Calls Tryz.prog 68 (#[.int .i64 x] ++ #[.pointer (some ⟨P, 0, none⟩)]) W fun e w' => e = .returned (.bool (decide (t ≤ x))) ∧ ∃ q, w' = W.drewN q := by
  by_cases hf : t ≤ x
  · rw [decide_eq_true hf]
    go_enter Tryz.func68, Tryz.ntmps68
    go_wp2_with fail
    go_ret
    exact ⟨rfl, 0, rfl⟩
  · rw [decide_eq_false hf]
    go_enter Tryz.func68, Tryz.ntmps68
    go_wp2_with fail
    go_ret
    exact ⟨rfl, 0, rfl⟩
set_option maxHeartbeats 4000000 in
set_option maxRecDepth 100000 in
theorem seesN_c (hSort : SortC) (hDel : DelC) : SeesC 31 seesN := by
  intro w0 w R S F q c t item h hq h1 h6 hb
  obtain ⟨W0, hW0⟩ : ∃ W, W = w.alloc (.cells #[.int .i64 t] 3) := ⟨_, rfl⟩
  have hb0 : Below w.heap.size w W0 := by rw [hW0]; exact (Below.refl _ w).alloc (Nat.le_refl _) _
  have k0 : W0.cell? ⟨w.heap.size, 0, none⟩ = some (.int .i64 t) := by rw [hW0]; simp
  have hP0 := World.block_lt_of_cell? W0 _ k0
  simp only at hP0
  have HBY := hid_q (byNumber_fn hSort (h.below hb0) hq.lenD)
  have HDL : Hid (∀ (W : World) (v : Value), Below W0.heap.size W0 W → W.ownsRow W0.heap.size 3 1 v q.done.length ((sortI q.done).map (Value.int .i64)) → Calls Tryz.prog 48 #[v, .func (.func 68) #[] #[.pointer (some ⟨w.heap.size, 0, none⟩)]] W fun e w' => ∃ v', e = .returned v' ∧ IsInts w' v' (lessQ q t) ∧ W.grownBy w' v.ownBlock) := fun W v hW hv =>
    hDel (sortI q.done) (fun x => decide (t ≤ x)) _ _ v _ _ W (sortI_perm q.done).length_eq (by rw [(sortI_perm q.done).length_eq]; exact hq.lenD) hv call_less fun W2 x hg => less_fn t x _ W2 (by
      have hb : Below W0.heap.size W0 W2 := hW.grown hg hW.size fun k hk => (hv.lt k hk).1
      exact (hb.cell (p := ⟨w.heap.size, 0, none⟩) hP0).trans k0)
  have HLA : Hid (∀ (W : World) (v : Value), Below w.heap.size w W → IsInts W v (lessQ q t) → Calls Tryz.prog 69 #[.pointer (some ⟨R, 0, none⟩), v, .int .i64 item] W fun e w' => e = .returned (.int .i64 (seesN q t item)) ∧ Below W.heap.size W w') := fun W v hW hv =>
    lastOf_crs (h.below hW) hq (lessQ q t) v hv (fun x hx => hq.six x ((sortI_perm q.done).mem_iff.1 (List.mem_filter.1 hx).1)) (by have h2 := hq.lenD; have h3 := (sortI_perm q.done).length_eq; have h4 : (lessQ q t).length ≤ (sortI q.done).length := List.length_filter_le ..; omega) item
  obtain ⟨n, hn⟩ : ∃ n, q.done.length = n := ⟨_, rfl⟩
  rw [hn] at HBY HDL
  obtain ⟨r, hr⟩ : ∃ r, seesN q t item = r := ⟨_, rfl⟩
  rw [hr] at HLA ⊢
  have HB0 := hid_q hb0
  clear h hq h1 h6 hb hn hr hSort hDel hb0 k0 hP0
  go_enter Tryz.func31, Tryz.ntmps31
  go_upto_region 1 with (fail)
  rw [← hW0]
  obtain ⟨P, hP⟩ : ∃ P, P = w.heap.size := ⟨_, rfl⟩
  rw [← hP] at HDL ⊢
  have HP := hid_q hP
  clear hW0 hP
  go_wp2_with fail
  refine HBY.out.mono ?_
  rintro e w1 ⟨v1, rfl, ho1, hb1⟩
  have HDD := hid_q (HDL.out w1 v1 hb1 ho1)
  have HO1 := hid_q ho1
  have HB1 := hid_q hb1
  obtain ⟨ad1, c1, rfl, -⟩ := own_slice3 ho1
  clear ho1 hb1
  go_wp2_with fail
  refine HDD.out.mono ?_
  rintro e w2 ⟨v2, rfl, hi2, hg2⟩
  have hb2 : Below W0.heap.size W0 w2 := HB1.out.grown hg2 HB1.out.size fun k hk => (HO1.out.lt k hk).1
  have HB2 : Hid (Below w.heap.size w w2) := HB0.out.trans (hb2.mono HB0.out.size)
  have HLL := hid_q (HLA.out w2 v2 HB2.out hi2)
  obtain ⟨ad2, n2, c2, rfl⟩ : ∃ d n p, v2 = .slice d n p := by obtain ⟨a, _, _, c, h, _⟩ := hi2; exact ⟨a, _, c, h⟩
  clear hi2 hg2 hb2
  go_wp2_with fail
  refine HLL.out.mono ?_
  rintro e w3 ⟨rfl, hb3⟩
  have HB3 : Hid (Below w.heap.size w w3) := HB2.out.trans (hb3.mono HB2.out.size)
  clear hb3
  go_wp2_with fail
  go_ret
  exact ⟨rfl, HB3.out⟩
theorem call_newest : RuleFn 31 := fun _ _ => by kernel_rfl
theorem dealsTo_lenN (l : List Op3) : ∀ n, (dealsTo l n).length ≤ n := by
  intro n
  induction n with
  | zero => exact Nat.le_refl _
  | succ n ih =>
    show (dealsTo l n ++ (if hasB l ((n : Int) + 1) then [(n : Int) + 1] else [])).length ≤ n + 1
    rw [List.length_append]
    split
    · rw [List.length_singleton]; omega
    · rw [List.length_nil]; omega
set_option maxHeartbeats 16000000 in
set_option maxRecDepth 100000 in
theorem vers_sort (hSort : SortC) (hDel : DelC) : RunsC 10 4 okN true := by
  intro l v w hI
  obtain ⟨W0, hW0⟩ : ∃ W, W = w.alloc (.cells #[.slice none 0 0, .slice none 0 0, .slice none 0 0] 34) := ⟨_, rfl⟩
  have hb0 : Below w.heap.size w W0 := by rw [hW0]; exact (Below.refl _ w).alloc (Nat.le_refl _) _
  have HB0 := hid_q hb0
  have kz : W0.heap[w.heap.size]? = some (.cells #[.slice none 0 0, .slice none 0 0, .slice none 0 0] 34 (0, 0)) := by rw [hW0]; exact World.alloc_heap_new w _
  have HKZ := hid_q kz
  have hsz : W0.heap.size = w.heap.size + 1 := by rw [hW0]; simp
  have HSZ := hid_q hsz
  by_cases hc : (chk l).2 = 0
  · rw [vers_out hc]
    have HER : Hid (errV 0 = .nilIface) := if_pos rfl
    have HDE := hid_q (deals_ok l v W0 (hI.below hb0 (Nat.le_refl _)) hc)
    have HWH : Hid (∀ W dv, Below w.heap.size w W → IsInts W dv (dealsL l) → Calls Tryz.prog 30 #[v, .agg #[.func (.func 31) #[] #[], .func (.func 32) #[dv] #[]]] W fun e w' => ∃ W0 R, e = .returned (.tuple #[.pointer (some ⟨R, 0, none⟩), .nilIface]) ∧ Below W.heap.size W W0 ∧ CameTo W0 w' R (.func (.func 31) #[] #[]) (.func (.func 32) #[dv] #[]) (runQ seesN (fallN (dealsL l)) l l.length)) := fun W dv hW hv =>
      whole_ok call_newest call_late (seesN_c hSort hDel) (fallN_c (dealsL l) dv (fun t ht => ⟨(mem_deals.1 ht).1, (mem_deals.1 ht).2.1⟩) (Nat.le_trans (dealsTo_lenN l 6) (by decide))) l v W (fun W2 hW2 => hv.below hW2 (Nat.le_refl _)) (hI.below hW (Nat.le_refl _)) hc
    have hop := ((chk_iff l).1 hc).2.1
    have hl40 := chk_len hc
    obtain ⟨Q, hQ⟩ : ∃ Q, runQ seesN (fallN (dealsL l)) l l.length = Q := ⟨_, rfl⟩
    have HOK : Hid (CrsOk 100 Q) := by show CrsOk 100 Q; rw [← hQ]; exact (crsOk_all seesN _ hop l.length (Nat.le_refl _)).up (by omega)
    rw [hQ] at HWH ⊢
    have hsl : (sortI Q.done).length ≤ 100 := by rw [(sortI_perm Q.done).length_eq]; exact HOK.out.lenD
    have HSL := hid_q hsl
    have HS6 : Hid (∀ t ∈ sortI Q.done, 1 ≤ t ∧ t ≤ 6) := fun t ht => HOK.out.six t ((sortI_perm Q.done).mem_iff.1 ht)
    have HSO := hid_q hSort
    simp only
    obtain ⟨ad, b, off, cap, rfl, -⟩ := hI
    clear hc hop hl40 hb0 kz hsz hQ hSort hDel hsl
    go_enter Tryz.func10, Tryz.ntmps10
    go_upto_region 1 with (fail)
    rw [← hW0]
    obtain ⟨Z, hZ⟩ : ∃ Z, Z = w.heap.size := ⟨_, rfl⟩
    rw [← hZ] at HKZ ⊢
    have HZZ : Hid (Z < W0.heap.size ∧ w.heap.size ≤ Z) := by have := HSZ.out; exact ⟨by omega, by omega⟩
    clear hW0 hZ
    go_wp2_with fail
    refine HDE.out.mono ?_
    rintro e w1 ⟨dv, rfl, hd1, hb1⟩
    have HB1 : Hid (Below w.heap.size w w1) := HB0.out.trans (hb1.mono HB0.out.size)
    have HC1 := hid_q hb1
    have HWW := hid_q (HWH.out w1 dv HB1.out hd1)
    obtain ⟨adD, nD, cD, rfl⟩ : ∃ d n p, dv = .slice d n p := by obtain ⟨a, _, _, c, h, _⟩ := hd1; exact ⟨a, _, c, h⟩
    clear hd1 hb1 HWH
    go_wp2_with fail
    refine HWW.out.mono ?_
    rintro e w2 ⟨W1, R, rfl, hbA, ck, hok⟩
    have HB2 : Hid (Below W0.heap.size W0 w2) := HC1.out.trans ((hbA.trans (hok.old.mono hbA.size)).mono HC1.out.size)
    have HOKC := hid_q hok
    have HBY := hid_q (byNumber_fn HSO.out hok (by have := HOK.out.lenD; omega))
    obtain ⟨ND, hND⟩ : ∃ n, Q.done.length = n := ⟨_, rfl⟩
    have HND : Hid ((sortI Q.done).length = ND) := by show _ = _; rw [(sortI_perm Q.done).length_eq]; exact hND
    rw [hND] at HBY
    clear hbA hok hND
    go_wp2_with fail
    refine HBY.out.mono ?_
    rintro e w3 ⟨v3, rfl, ho3, hb3⟩
    have hi3 := isInts_own ho3 HND.out
    have HB3 : Hid (Below W0.heap.size W0 w3) := HB2.out.trans (hb3.mono HB2.out.size)
    have HOC := hid_q (outcome_crs (HOKC.out.below hb3) HOK.out _ _ hi3 HS6.out HSL.out)
    obtain ⟨ad3, c3, rfl, -⟩ := own_slice3 ho3
    clear ho3 hb3 hi3
    go_wp2_with fail
    refine HOC.out.mono ?_
    rintro e w5 ⟨a1, a2, a3, rfl, hi1, hi2, hi3, hr, hb5⟩
    have HBW : Hid (Below W0.heap.size W0 w5) := HB3.out.trans (hb5.mono HB3.out.size)
    have hz5 := (HBW.out.block Z HZZ.out.1).trans HKZ.out
    have HF5 := hid_q (fin5 hz5 HZZ.out.2 (HB0.out.trans (HBW.out.mono HB0.out.size)) (u1 := a1) (u2 := a2) (u3 := a3) hi1 hi2 hi3)
    have HRR := hid_q hr
    have z0 : w5.cell? ⟨Z, 0, none⟩ = some (.slice none 0 0) := by rw [cell_of_row w5 Z _ _ _ _ hz5]; rfl
    have z1 : w5.cell? ⟨Z, 1, none⟩ = some (.slice none 0 0) := by rw [cell_of_row w5 Z _ _ _ _ hz5]; rfl
    have z2 : w5.cell? ⟨Z, 2, none⟩ = some (.slice none 0 0) := by rw [cell_of_row w5 Z _ _ _ _ hz5]; rfl
    have y0 : w5.frozen? ⟨Z, 0, none⟩ = false := by simp [World.frozen?, hz5]
    have y1 : w5.frozen? ⟨Z, 1, none⟩ = false := by simp [World.frozen?, hz5]
    have y2 : w5.frozen? ⟨Z, 2, none⟩ = false := by simp [World.frozen?, hz5]
    obtain ⟨d1, n1, p1, x1⟩ : ∃ d n p, a1 = .slice d n p := by obtain ⟨a, _, _, c, h, _⟩ := hi1; exact ⟨a, _, c, h⟩
    obtain ⟨d2, n2, p2, x2⟩ : ∃ d n p, a2 = .slice d n p := by obtain ⟨a, _, _, c, h, _⟩ := hi2; exact ⟨a, _, c, h⟩
    obtain ⟨d3, n3, p3, x3⟩ : ∃ d n p, a3 = .slice d n p := by obtain ⟨a, _, _, c, h, _⟩ := hi3; exact ⟨a, _, c, h⟩
    subst x1 x2 x3
    clear hi1 hi2 hi3 hr hb5 hz5
    go_wp2_with fail
    exact bodyPost_ret (v := .tuple #[.agg #[.slice d1 n1 p1, .slice d2 n2 p2, .slice d3 n3 p3], .nilIface]) (results_twoQ Tryz.results10 _ _ Z 34 #[.slice d1 n1 p1, .slice d2 n2 p2, .slice d3 n3 p3] (0, 0) _ .nilIface rfl rfl HF5.out.1 Tryz.underlying34 rfl outcome_infoQ) rfl ⟨_, _, _, by rw [HER.out], HF5.out.2.1, HF5.out.2.2.1, HF5.out.2.2.2.1, HRR.out, HF5.out.2.2.2.2⟩
  · rw [outU_bad hc]
    have HER : Hid (errV (chk l).2 = .iface 61 (.int .i64 (chk l).2)) := by show _ = _; unfold errV; rw [if_neg hc]
    have HDE := hid_q (deals_bad l v W0 (hI.below hb0 (Nat.le_refl _)) hc)
    obtain ⟨ad, b, off, cap, rfl, -⟩ := hI
    obtain ⟨n, hn⟩ : ∃ n, (chk l).2 = n := ⟨_, rfl⟩
    simp only
    rw [hn] at HER HDE ⊢
    clear hc hb0 kz hsz hn hSort hDel
    go_enter Tryz.func10, Tryz.ntmps10
    go_upto_region 1 with (fail)
    rw [← hW0]
    obtain ⟨Z, hZ⟩ : ∃ Z, Z = w.heap.size := ⟨_, rfl⟩
    rw [← hZ] at HKZ ⊢
    have HZZ : Hid (Z < W0.heap.size ∧ w.heap.size ≤ Z) := by have := HSZ.out; exact ⟨by omega, by omega⟩
    clear hW0 hZ
    go_wp2_with fail
    refine HDE.out.mono ?_
    rintro e w5 ⟨rfl, hb1⟩
    have HBW := hid_q hb1
    have hz5 := (HBW.out.block Z HZZ.out.1).trans HKZ.out
    have HF5 := hid_q (fin5 hz5 HZZ.out.2 (HB0.out.trans (HBW.out.mono HB0.out.size)) (u1 := .slice none 0 0) (u2 := .slice none 0 0) (u3 := .slice none 0 0) (isInts_nil _) (isOps_nilQ _) (isInts_nil _))
    have z0 : w5.cell? ⟨Z, 0, none⟩ = some (.slice none 0 0) := by rw [cell_of_row w5 Z _ _ _ _ hz5]; rfl
    have z1 : w5.cell? ⟨Z, 1, none⟩ = some (.slice none 0 0) := by rw [cell_of_row w5 Z _ _ _ _ hz5]; rfl
    have z2 : w5.cell? ⟨Z, 2, none⟩ = some (.slice none 0 0) := by rw [cell_of_row w5 Z _ _ _ _ hz5]; rfl
    have y0 : w5.frozen? ⟨Z, 0, none⟩ = false := by simp [World.frozen?, hz5]
    have y1 : w5.frozen? ⟨Z, 1, none⟩ = false := by simp [World.frozen?, hz5]
    have y2 : w5.frozen? ⟨Z, 2, none⟩ = false := by simp [World.frozen?, hz5]
    clear hb1 hz5
    go_wp2_with fail
    exact bodyPost_ret (v := .tuple #[.agg #[.slice none 0 0, .slice none 0 0, .slice none 0 0], .iface 61 (.int .i64 n)]) (results_twoQ Tryz.results10 _ _ Z 34 #[.slice none 0 0, .slice none 0 0, .slice none 0 0] (0, 0) _ (.iface 61 (.int .i64 n)) rfl rfl HF5.out.1 Tryz.underlying34 rfl outcome_infoQ) rfl ⟨_, _, _, by rw [HER.out], HF5.out.2.1, HF5.out.2.2.1, HF5.out.2.2.2.1, ⟨_, _, _, rfl, Nat.le_refl _⟩, HF5.out.2.2.2.2⟩
end Go.Proofs.YtccjognnehoodahGreat
