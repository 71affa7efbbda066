/-
  PROVED HERE: what a run of package course (as it lies in memory) answers when it is asked whether a deal had committed when another one began, and whether two ran at once. Old memory stays as it was.
  Conditions: the deals' numbers are 1 to 6, both have begun; the lists are short.
  PROVED HERE: nothing yet: what slices.Sort is asked at a row of whole numbers.
  Conditions: none.
-/
import Derived.Test.YtccjognnehoodafDoorMgbi
import Derived.Test.YtccjognnehoodafDoorMgbo
import Derived.Test.YtccjognnehoodafDoorMgaf
import Derived.Test.YtccjognnehoodafDoorMgbn
namespace Go.Proofs.YtccjognnehoodafDoor
open Go.RowKit

set_option maxHeartbeats 4000000 in
set_option maxRecDepth 100000 in
theorem before_crs {w0 w : World} {R : Nat} {S F : Value} {q : Crs} {c : CLay} (h : CrsAt w0 w R S F q c) (hq : CrsOk 1000 q) {t : Int} (h1 : 1 ≤ t) (h6 : t ≤ 6) {n : Nat} (hn : q.began t = some n) (o : Int) :
    Calls Tryd.prog 52 #[.pointer (some ⟨R, 0, none⟩), .int .i64 o, .int .i64 t] w fun e w' => e = .returned (.bool (inB (q.done.take n) o)) ∧ Below w.heap.size w w' := by
  have c2 := h.c2
  have c3 := h.c3
  obtain ⟨m, hm⟩ := h.beg
  have hwf := wf_deal h1 h6
  obtain ⟨ad1, cap1, e1, -⟩ := own_slice3 h.done
  have hrow := h.done
  rw [e1] at hrow c2
  obtain ⟨ad2, cap2, hsl, hI⟩ := own_front hrow (hq.cnt t n hn)
  have hg : (begM q.began t).getD (.int .i64 0) = .int .i64 (n : Int) := by unfold begM; rw [hn]; rfl
  have hlk0 : (Instr.lookup 78 (.map (some c.B)) (.int .i64 t) false).run Tryd.prog w.drew = .ok (.int .i64 (n : Int)) w.drew := by
    have := (MapIs.drew hm).look false Tryd.underlying78 (zero_intQ _) hwf
    rw [hg] at this
    exact this
  obtain ⟨N, hN⟩ : ∃ N, q.done.length = N := ⟨_, rfl⟩
  rw [hN] at hsl c2
  have HC : Hid (∀ W, Below w.heap.size w W → Calls Tryd.prog 58 #[.slice ad2 n cap2, .int .i64 o] W fun e w' => e = .returned (.bool (inB (q.done.take n) o)) ∧ Below W.heap.size W w') := fun W hW =>
    (contains_nums (q.done.take n) _ o W (hI.below hW (Nat.le_refl _)) (by have := hq.lenD; rw [List.length_take]; omega)).mono fun e w' hh => ⟨hh.1, by rw [hh.2]; exact Below.refl _ _⟩
  have HKC : Hid (∀ W, Below w.heap.size w W → W.cell? ⟨R, 2, none⟩ = some (.slice ad1 N cap1) ∧ W.cell? ⟨R, 3, none⟩ = some (.map (some c.B))) := fun W hW => ⟨(hW.cell (p := ⟨R, 2, none⟩) h.lt).trans c2, (hW.cell (p := ⟨R, 3, none⟩) h.lt).trans c3⟩
  clear h hq hm h1 h6 hn e1 hrow hI hg hN
  go_enter Tryd.func52, Tryd.ntmps52
  go_upto_region 1 with (fail)
  go_region_held3 (fun w' => w'.cell? ⟨R, 2, none⟩ = some (.slice ad1 N cap1) ∧ w'.cell? ⟨R, 3, none⟩ = some (.map (some c.B))) (first | exact ⟨ke0, ke1⟩ | exact ⟨c2, c3⟩) (first | (go_at_call 58; refine (HC.out _ (Below.refl _ w).drew).mono ?_; rintro e w1 ⟨rfl, hb0⟩; have hb1 : Below w.heap.size w w1 := (Below.refl _ w).drew.trans hb0; clear hb0; obtain ⟨ke0, ke1⟩ := HKC.out w1 hb1))
  all_goals
    go_wp2_with fail
    go_ret
    exact ⟨rfl, hb1⟩
set_option maxHeartbeats 4000000 in
set_option maxRecDepth 100000 in
theorem once_crs {w0 w : World} {R : Nat} {S F : Value} {q : Crs} {c : CLay} (h : CrsAt w0 w R S F q c) (hq : CrsOk 1000 q) {a b : Int} (ha1 : 1 ≤ a) (ha6 : a ≤ 6) (hb1 : 1 ≤ b) (hb6 : b ≤ 6) (ha : (q.began a).isSome = true) (hb : (q.began b).isSome = true) :
    Calls Tryd.prog 31 #[.pointer (some ⟨R, 0, none⟩), .int .i64 a, .int .i64 b] w fun e w' => e = .returned (.bool (isT q a b)) ∧ Below w.heap.size w w' := by
  obtain ⟨na, hna⟩ := Option.isSome_iff_exists.1 ha
  obtain ⟨nb, hnb⟩ := Option.isSome_iff_exists.1 hb
  have e0 : isT q a b = (!inB (q.done.take nb) a && !inB (q.done.take na) b) := by unfold isT; rw [hna, hnb]; rfl
  rw [e0]
  have HSA := hid_q (before_crs h hq hb1 hb6 hnb a)
  have HSB : Hid (∀ W, Below w.heap.size w W → Calls Tryd.prog 52 #[.pointer (some ⟨R, 0, none⟩), .int .i64 b, .int .i64 a] W fun e w' => e = .returned (.bool (inB (q.done.take na) b)) ∧ Below W.heap.size W w') := fun W hW => before_crs (h.below hW) hq ha1 ha6 hna b
  clear h hq ha hb hna hnb e0
  go_enter Tryd.func31, Tryd.ntmps31
  cases hin : inB (q.done.take nb) a with
  | true =>
    rw [hin] at HSA
    go_wp2_with fail
    refine HSA.out.mono ?_
    rintro e w1 ⟨rfl, hb1⟩
    go_wp2_with fail
    go_ret
    exact ⟨rfl, hb1⟩
  | false =>
    rw [hin] at HSA
    go_wp2_with fail
    refine HSA.out.mono ?_
    rintro e w1 ⟨rfl, hb1⟩
    have HB1 := hid_q hb1
    clear hb1
    go_wp2_with fail
    refine (HSB.out w1 HB1.out).mono ?_
    rintro e w2 ⟨rfl, hb2⟩
    have HB2 : Hid (Below w.heap.size w w2) := HB1.out.trans (hb2.mono HB1.out.size)
    clear hb2
    cases hin2 : inB (q.done.take na) b with
    | true =>
      go_wp2_with fail
      go_ret
      exact ⟨by rw [hin2]; rfl, HB2.out⟩
    | false =>
      go_wp2_with fail
      go_ret
      exact ⟨by rw [hin2]; rfl, HB2.out⟩
end Go.Proofs.YtccjognnehoodafDoor

namespace Go.Proofs.YtccjognnehoodafDoor
open Go.RowKit

/-- What slices.Sort is asked at a row of numbers of one's own. -/
def SortC : Prop := ∀ (zs : List Int) (v : Value) (base n : Nat) (w : World), zs.length = n → zs.length ≤ 1000 → w.ownsRow base 3 1 v n (zs.map (Value.int .i64)) →
  Calls Tryd.prog 29 #[v] w fun e w' => e = .returned (.tuple #[]) ∧ w'.ownsRow base 3 1 v n ((sortI zs).map (Value.int .i64)) ∧ w.grownBy w' v.ownBlock
end Go.Proofs.YtccjognnehoodafDoor
