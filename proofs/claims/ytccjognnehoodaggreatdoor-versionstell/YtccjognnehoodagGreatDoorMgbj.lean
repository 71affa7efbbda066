/-
  PROVED HERE: slices.IndexFunc and ContainsFunc at a list of deals of package versions, for any closure that answers by each deal. Old memory stays as it was.
  Conditions: what the closure answers is a premise.
  PROVED HERE: nothing yet: what slices.Sort is asked at a row of whole numbers.
  Conditions: none.
-/
import Derived.Test.YtccjognnehoodagGreatDoorMgbd
import Derived.Test.YtccjognnehoodagGreatDoorMgaf
import Derived.Test.YtccjognnehoodagGreatDoorMgba
namespace Go.Proofs.YtccjognnehoodagGreatDoor
open Go.RowKit

set_option maxHeartbeats 4000000 in
theorem index_dealC (l : List Int) (v : Value) (q : Int → Bool) (N : Nat) (C : Array Value) (w : World) (hcall : ∀ (args : Array Value) (W : World), (callFunc N args).run Tryz.prog W = .ok (.enter N args) W) (hI : IsInts w v l) (hlen : l.length ≤ 140737488351)
    (hp : ∀ W : World, Below w.heap.size w W → ∀ e ∈ l, Calls Tryz.prog N (#[.int .i64 e] ++ C) W fun r w' => r = .returned (.bool (q e)) ∧ Below W.heap.size W w') :
    Calls Tryz.prog 90 #[v, .func (.func N) #[] C] w fun r w' => ∃ n : Int, r = .returned (.int .i64 n) ∧ FirstIC l q n ∧ Below w.heap.size w w' := by
  have HI2 : Hid (IsInts w v l) := hI
  obtain ⟨ad, b, off, cap, rfl, ha, _, hbB, hops⟩ := hI
  have HO : Hid (∀ W, Below w.heap.size w W → ∀ k, k < l.length → ad = some ⟨b, off, none⟩ ∧ W.cell? ⟨b, off + k, none⟩ = some (.int .i64 (l.getD k 0))) := fun W hW k hk => ⟨ha (by omega), by
    have hb : b < w.heap.size := by
      rcases hbB with h | h
      · exact h
      · subst h; simp at hk
    exact (hW.cell (p := ⟨b, off + k, none⟩) hb).trans (hops k hk)⟩
  have HP : Hid (∀ W : World, Below w.heap.size w W → ∀ e ∈ l, Calls Tryz.prog N (#[.int .i64 e] ++ C) W fun r w' => r = .returned (.bool (q e)) ∧ Below W.heap.size W w') := hp
  clear ha hbB hops hp HI2
  go_enter Tryz.func90, Tryz.ntmps90
  go_wp2
  go_loopw [8] (fun v8 wr => ∃ k : Nat, k ≤ l.length ∧ v8 = .int .i64 k ∧ (l.take k).any q = false ∧ Below w.heap.size w wr) (fun v8 _ => l.length - (intOf v8).toNat)
  case atStart => exact ⟨0, Nat.zero_le _, rfl, by simp, Below.refl _ _⟩
  case round =>
    obtain ⟨k, hk, rfl, hno, hbel⟩ := hrel
    have HNO : Hid ((l.take k).any q = false) := hno
    clear hno
    have hsz := hbel.size
    by_cases hlt : k < l.length
    · have hlt' : (k : Int) < (l.length : Int) := by omega
      obtain ⟨rfl, c0⟩ := HO.out wr hbel k hlt
      obtain ⟨t, ho⟩ : ∃ o : Int, l.getD k 0 = o := ⟨_, rfl⟩
      rw [ho] at c0
      have hmem : t ∈ l := by rw [← ho]; exact getD_memC hlt
      have HT : Hid (l.take (k + 1) = l.take k ++ [t]) := by
        show l.take (k + 1) = l.take k ++ [t]
        rw [List.take_succ_eq_append_getElem hlt, ← ho]; simp [List.getD, List.getElem?_eq_getElem hlt]
      have HM : Hid (t ∈ l) := hmem
      have HG : Hid (l.getD k 0 = t) := ho
      clear ho HO hmem
      cases hq : q t with
      | false =>
        have HQ : Hid (q t = false) := hq
        have HC : Hid (Calls Tryz.prog N (#[.int .i64 t] ++ C) wr fun r w' => r = .returned (.bool false) ∧ Below wr.heap.size wr w') := hq ▸ HP.out wr hbel _ HM.out
        clear hq
        go_wp2_with fail
        refine HC.out.mono ?_
        rintro e w1 ⟨rfl, hb1⟩
        go_wp2_with fail
        go_roundw
        case rel => exact ⟨k + 1, by omega, by go_num, noneI_snocC HT.out HNO.out HQ.out, hbel.trans (hb1.mono hsz)⟩
        case measure => simp [intOf]; omega
      | true =>
        have HQ : Hid (q t = true) := hq
        have HC : Hid (Calls Tryz.prog N (#[.int .i64 t] ++ C) wr fun r w' => r = .returned (.bool true) ∧ Below wr.heap.size wr w') := hq ▸ HP.out wr hbel _ HM.out
        clear hq
        go_wp2_with fail
        refine HC.out.mono ?_
        rintro e w1 ⟨rfl, hb1⟩
        go_wp2_with fail
        go_ret
        exact ⟨_, rfl, FirstIC.some hlt HG.out HQ.out HNO.out, hbel.trans (hb1.mono hsz)⟩
    · have hlt' : ¬ (k : Int) < (l.length : Int) := by omega
      go_wp2_with fail
      go_ret
      refine ⟨_, rfl, FirstIC.none ?_, hbel⟩
      have h0 := HNO.out
      rw [List.take_of_length_le (by omega)] at h0
      exact h0
theorem contains_dealC (l : List Int) (v : Value) (q : Int → Bool) (N : Nat) (C : Array Value) (w : World) (hcall : ∀ (args : Array Value) (W : World), (callFunc N args).run Tryz.prog W = .ok (.enter N args) W) (hI : IsInts w v l) (hlen : l.length ≤ 140737488351)
    (hp : ∀ W : World, Below w.heap.size w W → ∀ e ∈ l, Calls Tryz.prog N (#[.int .i64 e] ++ C) W fun r w' => r = .returned (.bool (q e)) ∧ Below W.heap.size W w') :
    Calls Tryz.prog 60 #[v, .func (.func N) #[] C] w fun r w' => r = .returned (.bool (l.any q)) ∧ Below w.heap.size w w' := by
  have HC : Hid (Calls Tryz.prog 90 #[v, .func (.func N) #[] C] w fun r w' => ∃ n : Int, r = .returned (.int .i64 n) ∧ FirstIC l q n ∧ Below w.heap.size w w') := index_dealC l v q N C w hcall hI hlen hp
  clear hp hI hcall
  go_enter Tryz.func60, Tryz.ntmps60
  go_wp2_with (go_at_call 90; refine HC.out.mono ?_; rintro e w1 ⟨n, rfl, hn, hb1⟩; have hn1 := hn.sign; clear hn)
  all_goals go_ret
  all_goals exact ⟨ret_bool (by simp_all), hb1⟩
end Go.Proofs.YtccjognnehoodagGreatDoor

namespace Go.Proofs.YtccjognnehoodagGreatDoor
open Go.RowKit

/-- What slices.Sort is asked at a row of numbers of one's own. -/
def SortC : Prop := ∀ (zs : List Int) (v : Value) (base n : Nat) (w : World), zs.length = n → zs.length ≤ 1000 → w.ownsRow base 3 1 v n (zs.map (Value.int .i64)) →
  Calls Tryz.prog 77 #[v] w fun e w' => e = .returned (.tuple #[]) ∧ w'.ownsRow base 3 1 v n ((sortI zs).map (Value.int .i64)) ∧ w.grownBy w' v.ownBlock
end Go.Proofs.YtccjognnehoodagGreatDoor
