/-
  PROVED HERE: slices.IndexFunc and slices.ContainsFunc of edges, for any closure. Old memory stays as it was.
  Conditions: the lists are not too long; what the closure answers is a premise.
-/
import Derived.Test.YtjcaekhkeobhpahDoorMgah
import Derived.Test.YtjcaekhkeobhpahDoorEdgeRow
namespace Go.Proofs.YtjcaekhkeobhpahDoor
open Go.RowKit

def edV (x : Edge2) : Value := .agg #[.int .i64 x.1, .int .i64 x.2]
theorem noneE_snocC {q : Edge2 → Bool} {l : List Edge2} {k : Nat} {e : Edge2} (h : l.take (k + 1) = l.take k ++ [e]) (h1 : (l.take k).any q = false) (h2 : q e = false) : (l.take (k + 1)).any q = false := by
  rw [h, List.any_append, h1]; simp [h2]
/-- What IndexFunc answers. -/
def FirstEC (l : List Edge2) (q : Edge2 → Bool) (n : Int) : Prop := (n = -1 ∧ l.any q = false) ∨ ∃ k : Nat, n = k ∧ k < l.length ∧ q (l.getD k (0, 0)) = true ∧ (l.take k).any q = false
theorem getD_memE {l : List Edge2} {k : Nat} (h : k < l.length) : l.getD k (0, 0) ∈ l := by simp [List.getD, h]
theorem FirstEC.sign {l : List Edge2} {q : Edge2 → Bool} {n : Int} (h : FirstEC l q n) : decide (0 ≤ n) = l.any q := by
  rcases h with ⟨rfl, h⟩ | ⟨k, rfl, hk, hq, _⟩
  · rw [h]; rfl
  · have : l.any q = true := List.any_eq_true.2 ⟨_, getD_memE hk, hq⟩
    rw [this]; simp
theorem FirstEC.none {l : List Edge2} {q : Edge2 → Bool} (h : l.any q = false) : FirstEC l q (-1) := .inl ⟨rfl, h⟩
theorem FirstEC.some {l : List Edge2} {q : Edge2 → Bool} {k : Nat} {e : Edge2} (hk : k < l.length) (he : l.getD k (0, 0) = e) (hq : q e = true) (h : (l.take k).any q = false) : FirstEC l q (k : Int) := .inr ⟨k, rfl, hk, by rw [he]; exact hq, h⟩
set_option maxHeartbeats 4000000 in
theorem index_edge (l : List Edge2) (v : Value) (q : Edge2 → Bool) (N : Nat) (C : Array Value) (w : World) (hcall : ∀ (args : Array Value) (W : World), (callFunc N args).run Tryd.prog W = .ok (.enter N args) W) (hI : IsEdges w v l) (hlen : l.length ≤ 140737488351)
    (hp : ∀ W : World, Below w.heap.size w W → ∀ e ∈ l, Calls Tryd.prog N (#[edV e] ++ C) W fun r w' => r = .returned (.bool (q e)) ∧ Below W.heap.size W w') :
    Calls Tryd.prog 41 #[v, .func (.func N) #[] C] w fun r w' => ∃ n : Int, r = .returned (.int .i64 n) ∧ FirstEC l q n ∧ Below w.heap.size w w' := by
  obtain ⟨ad, b, off, cap, rfl, ha, _, hbB, hops⟩ := hI
  have HO : Hid (∀ W, Below w.heap.size w W → ∀ k, k < l.length → ad = some ⟨b, off, none⟩ ∧ W.cell? ⟨b, off + k * 2, none⟩ = some (.int .i64 (l.getD k (0, 0)).1) ∧ W.cell? ⟨b, off + k * 2 + 1, none⟩ = some (.int .i64 (l.getD k (0, 0)).2)) := fun W hW k hk => ⟨ha (by omega), (hops.below hW hbB) k hk⟩
  have HP : Hid (∀ W : World, Below w.heap.size w W → ∀ e ∈ l, Calls Tryd.prog N (#[edV e] ++ C) W fun r w' => r = .returned (.bool (q e)) ∧ Below W.heap.size W w') := hp
  clear ha hbB hops hp
  go_enter Tryd.func41, Tryd.ntmps41
  go_wp2
  go_loopw [8] (fun v8 wr => ∃ k : Nat, k ≤ l.length ∧ v8 = .int .i64 k ∧ (l.take k).any q = false ∧ Below w.heap.size w wr) (fun v8 _ => l.length - (intOf v8).toNat)
  case atStart => exact ⟨0, Nat.zero_le _, rfl, by simp, Below.refl _ _⟩
  case round =>
    obtain ⟨k, hk, rfl, hno, hbel⟩ := hrel
    have HNO : Hid ((l.take k).any q = false) := hno
    clear hno
    have hsz := hbel.size
    by_cases hlt : k < l.length
    · have hlt' : (k : Int) < (l.length : Int) := by omega
      obtain ⟨rfl, c0, c1⟩ := HO.out wr hbel k hlt
      obtain ⟨⟨t, a⟩, ho⟩ : ∃ o : Edge2, l.getD k (0, 0) = o := ⟨_, rfl⟩
      rw [ho] at c0 c1
      have hmem : (t, a) ∈ l := by rw [← ho]; exact getD_memE hlt
      have HT : Hid (l.take (k + 1) = l.take k ++ [(t, a)]) := by
        show l.take (k + 1) = l.take k ++ [(t, a)]
        rw [List.take_succ_eq_append_getElem hlt, ← ho]; simp [List.getD, List.getElem?_eq_getElem hlt]
      have HM : Hid ((t, a) ∈ l) := hmem
      have HG : Hid (l.getD k (0, 0) = (t, a)) := ho
      clear ho HO hmem
      simp only at c0 c1
      cases hq : q (t, a) with
      | false =>
        have HQ : Hid (q (t, a) = false) := hq
        have HC : Hid (Calls Tryd.prog N (#[.agg #[.int .i64 t, .int .i64 a]] ++ C) wr fun r w' => r = .returned (.bool false) ∧ Below wr.heap.size wr w') := hq ▸ HP.out wr hbel _ HM.out
        clear hq
        go_wp2_with fail
        refine HC.out.mono ?_
        rintro e w1 ⟨rfl, hb1⟩
        go_wp2_with fail
        go_roundw
        case rel => exact ⟨k + 1, by omega, by go_num, noneE_snocC HT.out HNO.out HQ.out, hbel.trans (hb1.mono hsz)⟩
        case measure => simp [intOf]; omega
      | true =>
        have HQ : Hid (q (t, a) = true) := hq
        have HC : Hid (Calls Tryd.prog N (#[.agg #[.int .i64 t, .int .i64 a]] ++ C) wr fun r w' => r = .returned (.bool true) ∧ Below wr.heap.size wr w') := hq ▸ HP.out wr hbel _ HM.out
        clear hq
        go_wp2_with fail
        refine HC.out.mono ?_
        rintro e w1 ⟨rfl, hb1⟩
        go_wp2_with fail
        go_ret
        exact ⟨_, rfl, FirstEC.some hlt HG.out HQ.out HNO.out, hbel.trans (hb1.mono hsz)⟩
    · have hlt' : ¬ (k : Int) < (l.length : Int) := by omega
      go_wp2_with fail
      go_ret
      refine ⟨_, rfl, FirstEC.none ?_, hbel⟩
      have h0 := HNO.out
      rw [List.take_of_length_le (by omega)] at h0
      exact h0
theorem contains_edge (l : List Edge2) (v : Value) (q : Edge2 → Bool) (N : Nat) (C : Array Value) (w : World) (hcall : ∀ (args : Array Value) (W : World), (callFunc N args).run Tryd.prog W = .ok (.enter N args) W) (hI : IsEdges w v l) (hlen : l.length ≤ 140737488351)
    (hp : ∀ W : World, Below w.heap.size w W → ∀ e ∈ l, Calls Tryd.prog N (#[edV e] ++ C) W fun r w' => r = .returned (.bool (q e)) ∧ Below W.heap.size W w') :
    Calls Tryd.prog 18 #[v, .func (.func N) #[] C] w fun r w' => r = .returned (.bool (l.any q)) ∧ Below w.heap.size w w' := by
  have HC : Hid (Calls Tryd.prog 41 #[v, .func (.func N) #[] C] w fun r w' => ∃ n : Int, r = .returned (.int .i64 n) ∧ FirstEC l q n ∧ Below w.heap.size w w') := index_edge l v q N C w hcall hI hlen hp
  clear hp hI hcall
  go_enter Tryd.func18, Tryd.ntmps18
  go_wp2_with (go_at_call 41; refine HC.out.mono ?_; rintro e w1 ⟨n, rfl, hn, hb1⟩; have hn1 := hn.sign; clear hn)
  all_goals go_ret
  all_goals exact ⟨ret_bool (by simp_all), hb1⟩
end Go.Proofs.YtjcaekhkeobhpahDoor
