/-
  PROVED HERE: what package course and the rules of its runs call of Go's library, at their types: slices.Index, slices.Contains and slices.Clone of whole numbers, slices.Clone of what was seen, slices.IndexFunc and slices.ContainsFunc for any closure. Old memory stays as it was.
  Conditions: the lists are short; what the closure answers is a premise.
  PROVED HERE: what a run of package course (as it lies in memory) answers to those that ask it: whether a deal wrote an item, what it read and wrote, who committed, who did since it began. Old memory stays as it was.
  Conditions: the deal's number is 1 to 6; the lists are short.
-/
import Derived.Test.YtccjognnehoodagMgad
import Derived.Test.YtccjognnehoodagMgaf
import Derived.Test.YtccjognnehoodagMgaq
import Derived.Test.YtccjognnehoodagMgaw
import Derived.Test.YtccjognnehoodagMgbo
import Derived.Deep.Cut
import Derived.Deep.RegionHeld3
namespace Go.Proofs.Ytccjognnehoodag
open Go.RowKit

theorem hid_q {p : Prop} (h : p) : Hid p := h
theorem noneI_snocC {q : Int → Bool} {l : List Int} {k : Nat} {e : Int} (h : l.take (k + 1) = l.take k ++ [e]) (h1 : (l.take k).any q = false) (h2 : q e = false) : (l.take (k + 1)).any q = false := by
  rw [h, List.any_append, h1]; simp [h2]
/-- What IndexFunc answers. -/
def FirstIC (l : List Int) (q : Int → Bool) (n : Int) : Prop := (n = -1 ∧ l.any q = false) ∨ ∃ k : Nat, n = k ∧ k < l.length ∧ q (l.getD k 0) = true ∧ (l.take k).any q = false
theorem getD_memC {l : List Int} {k : Nat} (h : k < l.length) : l.getD k 0 ∈ l := by simp [List.getD, h]
theorem FirstIC.sign {l : List Int} {q : Int → Bool} {n : Int} (h : FirstIC l q n) : decide (0 ≤ n) = l.any q := by
  rcases h with ⟨rfl, h⟩ | ⟨k, rfl, hk, hq, _⟩
  · rw [h]; rfl
  · have : l.any q = true := List.any_eq_true.2 ⟨_, getD_memC hk, hq⟩
    rw [this]; simp
theorem FirstIC.none {l : List Int} {q : Int → Bool} (h : l.any q = false) : FirstIC l q (-1) := .inl ⟨rfl, h⟩
theorem FirstIC.some {l : List Int} {q : Int → Bool} {k : Nat} {e : Int} (hk : k < l.length) (he : l.getD k 0 = e) (hq : q e = true) (h : (l.take k).any q = false) : FirstIC l q (k : Int) := .inr ⟨k, rfl, hk, by rw [he]; exact hq, h⟩
set_option maxHeartbeats 4000000 in
theorem index_intC (l : List Int) (v : Value) (q : Int → Bool) (N : Nat) (C : Array Value) (w : World) (hcall : ∀ (args : Array Value) (W : World), (callFunc N args).run Try.prog W = .ok (.enter N args) W) (hI : IsInts w v l) (hlen : l.length ≤ 140737488351)
    (hp : ∀ W : World, Below w.heap.size w W → ∀ e ∈ l, Calls Try.prog N (#[.int .i64 e] ++ C) W fun r w' => r = .returned (.bool (q e)) ∧ Below W.heap.size W w') :
    Calls Try.prog 69 #[v, .func (.func N) #[] C] w fun r w' => ∃ n : Int, r = .returned (.int .i64 n) ∧ FirstIC l q n ∧ Below w.heap.size w w' := by
  have HI2 : Hid (IsInts w v l) := hI
  obtain ⟨ad, b, off, cap, rfl, ha, _, hbB, hops⟩ := hI
  have HO : Hid (∀ W, Below w.heap.size w W → ∀ k, k < l.length → ad = some ⟨b, off, none⟩ ∧ W.cell? ⟨b, off + k, none⟩ = some (.int .i64 (l.getD k 0))) := fun W hW k hk => ⟨ha (by omega), by
    have hb : b < w.heap.size := by
      rcases hbB with h | h
      · exact h
      · subst h; simp at hk
    exact (hW.cell (p := ⟨b, off + k, none⟩) hb).trans (hops k hk)⟩
  have HP : Hid (∀ W : World, Below w.heap.size w W → ∀ e ∈ l, Calls Try.prog N (#[.int .i64 e] ++ C) W fun r w' => r = .returned (.bool (q e)) ∧ Below W.heap.size W w') := hp
  clear ha hbB hops hp HI2
  go_enter Try.func69, Try.ntmps69
  go_wp2
  go_loopw [8] (fun v8 wr => ∃ k : Nat, k ≤ l.length ∧ v8 = .int .i64 k ∧ (l.take k).any q = false ∧ Below w.heap.size w wr) (fun v8 _ => l.length - (intOf v8).toNat)
  case atStart => exact ⟨0, Nat.zero_le _, rfl, by simp, Below.refl _ _⟩
  case round =>
    obtain ⟨k, hk, rfl, hno, hbel⟩ := hrel
    have HNO : Hid ((l.take k).any q = false) := hno
    clear hno
    have hsz := hbel.size
    by_cases hlt : k < l.length
    · have hlt' : (k : Int) < (l.length : Int) := by omega
      obtain ⟨rfl, c0⟩ := HO.out wr hbel k hlt
      obtain ⟨t, ho⟩ : ∃ o : Int, l.getD k 0 = o := ⟨_, rfl⟩
      rw [ho] at c0
      have hmem : t ∈ l := by rw [← ho]; exact getD_memC hlt
      have HT : Hid (l.take (k + 1) = l.take k ++ [t]) := by
        show l.take (k + 1) = l.take k ++ [t]
        rw [List.take_succ_eq_append_getElem hlt, ← ho]; simp [List.getD, List.getElem?_eq_getElem hlt]
      have HM : Hid (t ∈ l) := hmem
      have HG : Hid (l.getD k 0 = t) := ho
      clear ho HO hmem
      cases hq : q t with
      | false =>
        have HQ : Hid (q t = false) := hq
        have HC : Hid (Calls Try.prog N (#[.int .i64 t] ++ C) wr fun r w' => r = .returned (.bool false) ∧ Below wr.heap.size wr w') := hq ▸ HP.out wr hbel _ HM.out
        clear hq
        go_wp2_with fail
        refine HC.out.mono ?_
        rintro e w1 ⟨rfl, hb1⟩
        go_wp2_with fail
        go_roundw
        case rel => exact ⟨k + 1, by omega, by go_num, noneI_snocC HT.out HNO.out HQ.out, hbel.trans (hb1.mono hsz)⟩
        case measure => simp [intOf]; omega
      | true =>
        have HQ : Hid (q t = true) := hq
        have HC : Hid (Calls Try.prog N (#[.int .i64 t] ++ C) wr fun r w' => r = .returned (.bool true) ∧ Below wr.heap.size wr w') := hq ▸ HP.out wr hbel _ HM.out
        clear hq
        go_wp2_with fail
        refine HC.out.mono ?_
        rintro e w1 ⟨rfl, hb1⟩
        go_wp2_with fail
        go_ret
        exact ⟨_, rfl, FirstIC.some hlt HG.out HQ.out HNO.out, hbel.trans (hb1.mono hsz)⟩
    · have hlt' : ¬ (k : Int) < (l.length : Int) := by omega
      go_wp2_with fail
      go_ret
      refine ⟨_, rfl, FirstIC.none ?_, hbel⟩
      have h0 := HNO.out
      rw [List.take_of_length_le (by omega)] at h0
      exact h0
theorem contains_intC (l : List Int) (v : Value) (q : Int → Bool) (N : Nat) (C : Array Value) (w : World) (hcall : ∀ (args : Array Value) (W : World), (callFunc N args).run Try.prog W = .ok (.enter N args) W) (hI : IsInts w v l) (hlen : l.length ≤ 140737488351)
    (hp : ∀ W : World, Below w.heap.size w W → ∀ e ∈ l, Calls Try.prog N (#[.int .i64 e] ++ C) W fun r w' => r = .returned (.bool (q e)) ∧ Below W.heap.size W w') :
    Calls Try.prog 46 #[v, .func (.func N) #[] C] w fun r w' => r = .returned (.bool (l.any q)) ∧ Below w.heap.size w w' := by
  have HC : Hid (Calls Try.prog 69 #[v, .func (.func N) #[] C] w fun r w' => ∃ n : Int, r = .returned (.int .i64 n) ∧ FirstIC l q n ∧ Below w.heap.size w w') := index_intC l v q N C w hcall hI hlen hp
  clear hp hI hcall
  go_enter Try.func46, Try.ntmps46
  go_wp2_with (go_at_call 69; refine HC.out.mono ?_; rintro e w1 ⟨n, rfl, hn, hb1⟩; have hn1 := hn.sign; clear hn)
  all_goals go_ret
  all_goals exact ⟨ret_bool (by simp_all), hb1⟩
/-- What was seen, as a value. -/
def seV (x : Op3) : Value := .agg #[.int .i64 x.1, .int .i64 x.2.1, .int .i64 x.2.2]
theorem noneL_snocC {q : Op3 → Bool} {l : List Op3} {k : Nat} {e : Op3} (h : l.take (k + 1) = l.take k ++ [e]) (h1 : (l.take k).any q = false) (h2 : q e = false) : (l.take (k + 1)).any q = false := by
  rw [h, List.any_append, h1]; simp [h2]
/-- What IndexFunc answers. -/
def FirstLC (l : List Op3) (q : Op3 → Bool) (n : Int) : Prop := (n = -1 ∧ l.any q = false) ∨ ∃ k : Nat, n = k ∧ k < l.length ∧ q (opAt l k) = true ∧ (l.take k).any q = false
theorem FirstLC.sign {l : List Op3} {q : Op3 → Bool} {n : Int} (h : FirstLC l q n) : decide (0 ≤ n) = l.any q := by
  rcases h with ⟨rfl, h⟩ | ⟨k, rfl, hk, hq, _⟩
  · rw [h]; rfl
  · have : l.any q = true := List.any_eq_true.2 ⟨_, opAt_mem hk, hq⟩
    rw [this]; simp
theorem FirstLC.none {l : List Op3} {q : Op3 → Bool} (h : l.any q = false) : FirstLC l q (-1) := .inl ⟨rfl, h⟩
theorem FirstLC.some {l : List Op3} {q : Op3 → Bool} {k : Nat} {e : Op3} (hk : k < l.length) (he : opAt l k = e) (hq : q e = true) (h : (l.take k).any q = false) : FirstLC l q (k : Int) := .inr ⟨k, rfl, hk, by rw [he]; exact hq, h⟩
theorem any_take_notC {l : List Op3} {q : Op3 → Bool} {k j : Nat} (h : (l.take k).any q = false) (hj : j < k) (hk : k ≤ l.length) : q (opAt l j) = false := by
  have hm : opAt l j ∈ l.take k := by
    rw [List.mem_iff_getElem]
    exact ⟨j, by simp; omega, by simp [opAt, List.getD, List.getElem?_eq_getElem (show j < l.length by omega)]⟩
  simpa using List.any_eq_false.1 h _ hm
set_option maxHeartbeats 4000000 in
theorem index_seen (l : List Op3) (v : Value) (q : Op3 → Bool) (N : Nat) (C : Array Value) (w : World) (hcall : ∀ (args : Array Value) (W : World), (callFunc N args).run Try.prog W = .ok (.enter N args) W) (hI : IsOps w v l) (hlen : l.length ≤ 140737488351)
    (hp : ∀ W : World, Below w.heap.size w W → ∀ e ∈ l, Calls Try.prog N (#[seV e] ++ C) W fun r w' => r = .returned (.bool (q e)) ∧ Below W.heap.size W w') :
    Calls Try.prog 70 #[v, .func (.func N) #[] C] w fun r w' => ∃ n : Int, r = .returned (.int .i64 n) ∧ FirstLC l q n ∧ Below w.heap.size w w' := by
  obtain ⟨ad, b, off, cap, rfl, ha, _, hbB, hops⟩ := hI
  have HO : Hid (∀ W, Below w.heap.size w W → ∀ k, k < l.length → ad = some ⟨b, off, none⟩ ∧ W.cell? ⟨b, off + k * 3, none⟩ = some (.int .i64 (opAt l k).1) ∧ W.cell? ⟨b, off + k * 3 + 1, none⟩ = some (.int .i64 (opAt l k).2.1) ∧ W.cell? ⟨b, off + k * 3 + 2, none⟩ = some (.int .i64 (opAt l k).2.2)) := fun W hW k hk => ⟨ha (by omega), (hops.below hW hbB) k hk⟩
  have HP : Hid (∀ W : World, Below w.heap.size w W → ∀ e ∈ l, Calls Try.prog N (#[seV e] ++ C) W fun r w' => r = .returned (.bool (q e)) ∧ Below W.heap.size W w') := hp
  clear ha hbB hops hp
  go_enter Try.func70, Try.ntmps70
  go_wp2
  go_loopw [8] (fun v8 wr => ∃ k : Nat, k ≤ l.length ∧ v8 = .int .i64 k ∧ (l.take k).any q = false ∧ Below w.heap.size w wr) (fun v8 _ => l.length - (intOf v8).toNat)
  case atStart => exact ⟨0, Nat.zero_le _, rfl, by simp, Below.refl _ _⟩
  case round =>
    obtain ⟨k, hk, rfl, hno, hbel⟩ := hrel
    have HNO : Hid ((l.take k).any q = false) := hno
    clear hno
    have hsz := hbel.size
    by_cases hlt : k < l.length
    · have hlt' : (k : Int) < (l.length : Int) := by omega
      obtain ⟨rfl, c0, c1, c2⟩ := HO.out wr hbel k hlt
      obtain ⟨⟨t, a, i⟩, ho⟩ : ∃ o : Op3, opAt l k = o := ⟨_, rfl⟩
      rw [ho] at c0 c1 c2
      have hmem : (t, a, i) ∈ l := by rw [← ho]; exact opAt_mem hlt
      have HT : Hid (l.take (k + 1) = l.take k ++ [(t, a, i)]) := by
        show l.take (k + 1) = l.take k ++ [(t, a, i)]
        rw [List.take_succ_eq_append_getElem hlt, ← ho]; simp [opAt, List.getD, List.getElem?_eq_getElem hlt]
      have HM : Hid ((t, a, i) ∈ l) := hmem
      have HG : Hid (opAt l k = (t, a, i)) := ho
      clear ho HO hmem
      simp only at c0 c1 c2
      cases hq : q (t, a, i) with
      | false =>
        have HQ : Hid (q (t, a, i) = false) := hq
        have HC : Hid (Calls Try.prog N (#[.agg #[.int .i64 t, .int .i64 a, .int .i64 i]] ++ C) wr fun r w' => r = .returned (.bool false) ∧ Below wr.heap.size wr w') := hq ▸ HP.out wr hbel _ HM.out
        clear hq
        go_wp2_with fail
        refine HC.out.mono ?_
        rintro e w1 ⟨rfl, hb1⟩
        go_wp2_with fail
        go_roundw
        case rel => exact ⟨k + 1, by omega, by go_num, noneL_snocC HT.out HNO.out HQ.out, hbel.trans (hb1.mono hsz)⟩
        case measure => simp [intOf]; omega
      | true =>
        have HQ : Hid (q (t, a, i) = true) := hq
        have HC : Hid (Calls Try.prog N (#[.agg #[.int .i64 t, .int .i64 a, .int .i64 i]] ++ C) wr fun r w' => r = .returned (.bool true) ∧ Below wr.heap.size wr w') := hq ▸ HP.out wr hbel _ HM.out
        clear hq
        go_wp2_with fail
        refine HC.out.mono ?_
        rintro e w1 ⟨rfl, hb1⟩
        go_wp2_with fail
        go_ret
        exact ⟨_, rfl, FirstLC.some hlt HG.out HQ.out HNO.out, hbel.trans (hb1.mono hsz)⟩
    · have hlt' : ¬ (k : Int) < (l.length : Int) := by omega
      go_wp2_with fail
      go_ret
      refine ⟨_, rfl, FirstLC.none ?_, hbel⟩
      have h0 := HNO.out
      rw [List.take_of_length_le (by omega)] at h0
      exact h0
theorem contains_seen (l : List Op3) (v : Value) (q : Op3 → Bool) (N : Nat) (C : Array Value) (w : World) (hcall : ∀ (args : Array Value) (W : World), (callFunc N args).run Try.prog W = .ok (.enter N args) W) (hI : IsOps w v l) (hlen : l.length ≤ 140737488351)
    (hp : ∀ W : World, Below w.heap.size w W → ∀ e ∈ l, Calls Try.prog N (#[seV e] ++ C) W fun r w' => r = .returned (.bool (q e)) ∧ Below W.heap.size W w') :
    Calls Try.prog 49 #[v, .func (.func N) #[] C] w fun r w' => r = .returned (.bool (l.any q)) ∧ Below w.heap.size w w' := by
  have HC : Hid (Calls Try.prog 70 #[v, .func (.func N) #[] C] w fun r w' => ∃ n : Int, r = .returned (.int .i64 n) ∧ FirstLC l q n ∧ Below w.heap.size w w') := index_seen l v q N C w hcall hI hlen hp
  clear hp hI hcall
  go_enter Try.func49, Try.ntmps49
  go_wp2_with (go_at_call 70; refine HC.out.mono ?_; rintro e w1 ⟨n, rfl, hn, hb1⟩; have hn1 := hn.sign; clear hn)
  all_goals go_ret
  all_goals exact ⟨ret_bool (by simp_all), hb1⟩
set_option maxHeartbeats 4000000 in
theorem index_nums (l : List Int) (v : Value) (n : Int) (w : World) (hI : IsInts w v l) (hl : l.length ≤ 1000) :
    Calls Try.prog 91 #[v, .int .i64 n] w fun e w' => ∃ m : Int, e = .returned (.int .i64 m) ∧ decide (0 ≤ m) = inB l n ∧ w' = w := by
  obtain ⟨ad, b, off, cap, rfl, ha, -, -, hc⟩ := hI
  have HE : Hid (∀ k, k < l.length → ad = some ⟨b, off, none⟩ ∧ w.cell? ⟨b, off + k, none⟩ = some (.int .i64 (l.getD k 0))) := fun k hk => ⟨ha (by omega), hc k hk⟩
  clear ha hc
  go_enter Try.func91, Try.ntmps91
  go_wp2_with fail
  go_loopw [8] (fun v8 wr => ∃ k : Nat, k ≤ l.length ∧ v8 = .int .i64 k ∧ inB (l.take k) n = false ∧ wr = w) (fun v8 _ => l.length - (intOf v8).toNat)
  case atStart => exact ⟨0, Nat.zero_le _, rfl, rfl, rfl⟩
  case round =>
    obtain ⟨k, hk, rfl, hno, hwr⟩ := hrel
    rw [hwr]
    clear hwr
    have HNO : Hid (inB (l.take k) n = false) := hno
    clear hno
    by_cases hlt : k < l.length
    · have hlt' : (k : Int) < (l.length : Int) := by omega
      obtain ⟨rfl, c0⟩ := HE.out k hlt
      obtain ⟨t, ho⟩ : ∃ t, l.getD k 0 = t := ⟨_, rfl⟩
      rw [ho] at c0
      have HM : Hid (t ∈ l) := by show t ∈ l; rw [← ho]; simp [List.getD, List.getElem?_eq_getElem hlt]
      have HT : Hid (l.take (k + 1) = l.take k ++ [t]) := by
        show l.take (k + 1) = l.take k ++ [t]
        rw [List.take_succ_eq_append_getElem hlt, ← ho]; simp [List.getD, List.getElem?_eq_getElem hlt]
      clear ho
      cases hq : (n == t) with
      | false =>
        have HN : Hid (inB (l.take (k + 1)) n = false) := by
          show inB (l.take (k + 1)) n = false
          have h1 := inB_not.1 HNO.out
          refine inB_not.2 fun h => ?_
          rw [HT.out, List.mem_append, List.mem_singleton] at h
          rcases h with h | h
          · exact h1 h
          · rw [h] at hq; simp at hq
        go_wp2_with fail
        go_roundw
        case rel => exact ⟨k + 1, by omega, by go_num, HN.out, trivial⟩
        case measure => simp [intOf]; omega
      | true =>
        have HR : Hid (inB l n = true) := by
          show inB l n = true
          have : n = t := by simpa using hq
          rw [this]; exact inB_iff.2 HM.out
        go_wp2_with fail
        go_ret
        exact ⟨_, rfl, by rw [HR.out]; simp, rfl⟩
    · have hlt' : ¬ (k : Int) < (l.length : Int) := by omega
      have HR : Hid (inB l n = false) := by
        show inB l n = false
        have h0 := HNO.out
        rw [List.take_of_length_le (by omega)] at h0
        exact h0
      go_wp2_with fail
      go_ret
      exact ⟨_, rfl, by rw [HR.out]; rfl, rfl⟩
theorem contains_nums (l : List Int) (v : Value) (n : Int) (w : World) (hI : IsInts w v l) (hl : l.length ≤ 1000) :
    Calls Try.prog 71 #[v, .int .i64 n] w fun e w' => e = .returned (.bool (inB l n)) ∧ w' = w := by
  have HC := hid_q (index_nums l v n w hI hl)
  clear hI
  go_enter Try.func71, Try.ntmps71
  go_wp2_with (go_at_call 91; refine HC.out.mono ?_; rintro e w1 ⟨m, rfl, hn1, hw1⟩; rw [hw1]; clear hw1)
  all_goals go_ret
  all_goals exact ⟨ret_bool (by simp_all), rfl⟩
theorem infoSeenQ : (Try.prog.info? 60).map (fun i => (i.zero, i.size, i.bytes)) = some (some (.agg #[.int .i64 0, .int .i64 0, .int .i64 0]), 3, 24) := by kernel_rfl
set_option maxHeartbeats 2000000 in
set_option maxRecDepth 100000 in
theorem clone_seen (l : List Op3) (v : Value) (w : World) (hI : IsOps w v l) (hl : l.length ≤ 1000) :
    Calls Try.prog 68 #[v] w fun e w' => ∃ v', e = .returned v' ∧ w'.ownsRow w.heap.size 60 3 v' l.length (flat l) ∧ Below w.heap.size w w' := by
  obtain ⟨ad, b, off, cap, rfl, ha, hn, -, hc⟩ := hI
  obtain ⟨i0, hi, hz0, hs0, hy0⟩ := info_parts infoSeenQ
  have HI : Hid (Try.prog.info? 60 = some i0 ∧ i0.zero = some (.agg #[.int .i64 0, .int .i64 0, .int .i64 0]) ∧ i0.size = 3 ∧ i0.bytes = 24) := ⟨hi, hz0, hs0, hy0⟩
  clear hi hz0 hs0 hy0
  cases ad with
  | none =>
    obtain ⟨h0, rfl⟩ := hn rfl
    have e0 : l = [] := List.length_eq_zero_iff.1 h0
    subst e0
    clear ha hn hc
    have hq : ∀ w, (binOp .eql 26 (.slice none 0 0) (.slice none 0 0)).run Try.prog w = .ok (.bool true) w := fun w => Lib.run_eql_slice_nil w _ _ _ _ _ _ _ Try.underlying26
    go_enter Try.func68, Try.ntmps68
    go_wp2
    go_ret
    exact ⟨_, rfl, World.ownsRow_nil _ _ _ _, Below.refl _ _⟩
  | some a =>
    by_cases h0 : l = []
    · subst h0
      clear ha hn hc
      have hq : ∀ w, (binOp .eql 26 (.slice (some a) 0 cap) (.slice none 0 0)).run Try.prog w = .ok (.bool false) w := fun w => Lib.run_eql_slice_nil w _ _ _ _ _ _ _ Try.underlying26
      go_enter Try.func68, Try.ntmps68
      go_wp2_with (at_builtin; refine wpList_append_own_none rfl (.tmp 5) (.tmp 6) 26 rfl w.heap.size 60 i0 3 Try.underlying26 HI.out.1 (.slice (some ⟨w.heap.size, 0, none⟩) 0 0) 0 [] rfl (World.ownsRow_made w #[] 0 (Nat.le_refl _) (Nat.zero_le _) rfl) rfl ?_)
      go_ret
      exact ⟨_, rfl, World.ownsRow_made w #[] 0 (Nat.le_refl _) (Nat.zero_le _) rfl, (Below.refl _ w).alloc (Nat.le_refl _) _⟩
    · have hq : ∀ w, (binOp .eql 26 (.slice (some a) l.length cap) (.slice none 0 0)).run Try.prog w = .ok (.bool false) w := fun w => Lib.run_eql_slice_nil w _ _ _ _ _ _ _ Try.underlying26
      have ha' := ha (List.length_pos_iff.2 h0)
      injection ha' with ha'
      subst ha'
      have HS : Hid (∀ j u, (flat l)[j]? = some u → w.cell? ⟨b, off + j, none⟩ = some u) := hc.flat
      clear ha hn hc
      go_enter Try.func68, Try.ntmps68
      go_wp2_with (at_builtin; refine wpList_append_own _ rfl (.tmp 5) (.tmp 6) 26 rfl w.heap.size 60 i0 (.agg #[.int .i64 0, .int .i64 0, .int .i64 0]) 3 24 Try.underlying26 HI.out.1 HI.out.2.1 HI.out.2.2.1 HI.out.2.2.2 rfl (by decide) (.slice (some ⟨w.heap.size, 0, none⟩) 0 0) 0 [] rfl (World.ownsRow_made w #[] 0 (Nat.le_refl _) (Nat.zero_le _) rfl) ⟨b, off, none⟩ l.length cap (flat l) rfl (flat_length l) (fun j u hj => by rw [Addr.add_lit]; have h1 := HS.out j u hj; rw [World.cell?_alloc_lt _ _ _ (World.block_lt_of_cell? w _ h1)]; exact h1) (flat_one l) (by unfold maxLen; omega) (by omega) (by simp) ?_; intro v1 w1 hown1 hgr1 hnil1)
      go_ret
      exact ⟨_, rfl, by simpa using hown1, ((Below.refl _ w).alloc (Nat.le_refl _) _).grown hgr1 (by simp) (by intro k hk; simp [Value.ownBlock] at hk; omega)⟩
end Go.Proofs.Ytccjognnehoodag

namespace Go.Proofs.Ytccjognnehoodag
open Go.RowKit

theorem zero_intsQ (w : World) : (zeroValue 25).run Try.prog w = .ok (.slice none 0 0) w := by kernel_rfl
theorem zero_seensQ (w : World) : (zeroValue 26).run Try.prog w = .ok (.slice none 0 0) w := by kernel_rfl
theorem zero_intQ (w : World) : (zeroValue 3).run Try.prog w = .ok (.int .i64 0) w := by kernel_rfl
section
variable {w0 w : World} {R : Nat} {S F : Value} {q : Crs} {c : CLay}
theorem CrsAt.wrotes (h : CrsAt w0 w R S F q c) {t : Int} (h1 : 1 ≤ t) (h6 : t ≤ 6) : ∃ ad cap, c.wv t = .slice ad (q.wrote t).length cap ∧ IsInts w (.slice ad (q.wrote t).length cap) (q.wrote t) := by
  obtain ⟨d, rfl⟩ : ∃ d : Nat, t = d := ⟨t.toNat, by omega⟩
  have hr := h.wrow d (by omega)
  obtain ⟨ad, cap, e, -⟩ := own_slice3 hr
  exact ⟨ad, cap, e, by rw [← e]; exact isInts_own hr rfl⟩
theorem CrsAt.reads (h : CrsAt w0 w R S F q c) {t : Int} (h1 : 1 ≤ t) (h6 : t ≤ 6) : ∃ ad cap, c.rv t = .slice ad (q.read t).length cap ∧ IsOps w (.slice ad (q.read t).length cap) (q.read t) := by
  obtain ⟨d, rfl⟩ : ∃ d : Nat, t = d := ⟨t.toNat, by omega⟩
  have hr := h.rrow d (by omega)
  obtain ⟨ad, cap, e, -⟩ := own_slice3 hr
  exact ⟨ad, cap, e, by rw [← e]; exact isOps_row hr rfl⟩
end
set_option maxHeartbeats 4000000 in
theorem wrote_crs {w0 w : World} {R : Nat} {S F : Value} {q : Crs} {c : CLay} (h : CrsAt w0 w R S F q c) {t : Int} (h1 : 1 ≤ t) (h6 : t ≤ 6) (item : Int) (hl : (q.wrote t).length ≤ 1000) :
    Calls Try.prog 51 #[.pointer (some ⟨R, 0, none⟩), .int .i64 t, .int .i64 item] w fun e w' => e = .returned (.bool (inB (q.wrote t) item)) ∧ w' = w := by
  have c5 := h.c5
  obtain ⟨m, hm⟩ := h.wr
  have HM := hid_q hm
  obtain ⟨ad, cap, hv, hI⟩ := h.wrotes h1 h6
  have HV : Hid ((c.hw t).getD (.slice none 0 0) = .slice ad (q.wrote t).length cap) := hv
  have HC := hid_q (contains_nums (q.wrote t) _ item w hI hl)
  have hwf := wf_deal h1 h6
  obtain ⟨n, hn⟩ : ∃ n, (q.wrote t).length = n := ⟨_, rfl⟩
  rw [hn] at HV HC
  clear h hm hv hI h1 h6 hl hn
  go_enter Try.func51, Try.ntmps51
  go_wp2_with (first | (at_lookup; refine wp_look _ rfl (.tmp 10) (.tmp 11) 73 false rfl 25 Try.underlying73 (.slice none 0 0) (zero_intsQ _) c.W m c.hw rfl HM.out t rfl hwf (.slice ad n cap) _ HV.out rfl ?_) | (go_at_call 71; refine HC.out.mono ?_; rintro e w1 ⟨rfl, hw1⟩; rw [hw1]; clear hw1))
  go_ret
  exact ⟨rfl, rfl⟩
set_option maxHeartbeats 4000000 in
theorem read_crs {w0 w : World} {R : Nat} {S F : Value} {q : Crs} {c : CLay} (h : CrsAt w0 w R S F q c) {t : Int} (h1 : 1 ≤ t) (h6 : t ≤ 6) (hl : (q.read t).length ≤ 1000) :
    Calls Try.prog 45 #[.pointer (some ⟨R, 0, none⟩), .int .i64 t] w fun e w' => ∃ v', e = .returned v' ∧ w'.ownsRow w.heap.size 60 3 v' (q.read t).length (flat (q.read t)) ∧ Below w.heap.size w w' := by
  have c4 := h.c4
  obtain ⟨m, hm⟩ := h.rd
  have HM := hid_q hm
  obtain ⟨ad, cap, hv, hI⟩ := h.reads h1 h6
  have HV : Hid ((c.hr t).getD (.slice none 0 0) = .slice ad (q.read t).length cap) := hv
  have HC := hid_q (clone_seen (q.read t) _ w hI hl)
  have hwf := wf_deal h1 h6
  obtain ⟨n, hn⟩ : ∃ n, (q.read t).length = n := ⟨_, rfl⟩
  rw [hn] at HV HC
  have HN := hid_q hn
  clear h hm hv hI h1 h6 hl hn
  go_enter Try.func45, Try.ntmps45
  go_wp2_with (first | (at_lookup; refine wp_look _ rfl (.tmp 8) (.tmp 9) 72 false rfl 26 Try.underlying72 (.slice none 0 0) (zero_seensQ _) c.D m c.hr rfl HM.out t rfl hwf (.slice ad n cap) _ HV.out rfl ?_) | (go_at_call 68; refine HC.out.mono ?_; rintro e w1 ⟨v1, rfl, ho1, hb1⟩))
  go_ret
  exact ⟨v1, rfl, by rw [HN.out]; exact ho1, hb1⟩
set_option maxHeartbeats 4000000 in
theorem written_crs {w0 w : World} {R : Nat} {S F : Value} {q : Crs} {c : CLay} (h : CrsAt w0 w R S F q c) {t : Int} (h1 : 1 ≤ t) (h6 : t ≤ 6) (hl : (q.wrote t).length ≤ 1000) :
    Calls Try.prog 64 #[.pointer (some ⟨R, 0, none⟩), .int .i64 t] w fun e w' => ∃ v', e = .returned v' ∧ w'.ownsRow w.heap.size 3 1 v' (q.wrote t).length ((q.wrote t).map (Value.int .i64)) ∧ Below w.heap.size w w' := by
  have c5 := h.c5
  obtain ⟨m, hm⟩ := h.wr
  have HM := hid_q hm
  obtain ⟨ad, cap, hv, hI⟩ := h.wrotes h1 h6
  have HV : Hid ((c.hw t).getD (.slice none 0 0) = .slice ad (q.wrote t).length cap) := hv
  have HC := hid_q (clone_ints (q.wrote t) _ w hI hl)
  have hwf := wf_deal h1 h6
  obtain ⟨n, hn⟩ : ∃ n, (q.wrote t).length = n := ⟨_, rfl⟩
  rw [hn] at HV HC
  have HN := hid_q hn
  clear h hm hv hI h1 h6 hl hn
  go_enter Try.func64, Try.ntmps64
  go_wp2_with (first | (at_lookup; refine wp_look _ rfl (.tmp 8) (.tmp 9) 73 false rfl 25 Try.underlying73 (.slice none 0 0) (zero_intsQ _) c.W m c.hw rfl HM.out t rfl hwf (.slice ad n cap) _ HV.out rfl ?_) | (go_at_call 55; refine HC.out.mono ?_; rintro e w1 ⟨v1, rfl, ho1, hb1⟩))
  go_ret
  exact ⟨v1, rfl, by rw [HN.out]; exact ho1, hb1⟩
set_option maxHeartbeats 4000000 in
theorem done_crs {w0 w : World} {R : Nat} {S F : Value} {q : Crs} {c : CLay} (h : CrsAt w0 w R S F q c) (hl : q.done.length ≤ 1000) :
    Calls Try.prog 30 #[.pointer (some ⟨R, 0, none⟩)] w fun e w' => ∃ v', e = .returned v' ∧ w'.ownsRow w.heap.size 3 1 v' q.done.length (q.done.map (Value.int .i64)) ∧ Below w.heap.size w w' := by
  have c2 := h.c2
  obtain ⟨ad, cap, e1, -⟩ := own_slice3 h.done
  have hI := isInts_own h.done rfl
  rw [e1] at c2 hI
  have HC := hid_q (clone_ints q.done _ w hI hl)
  obtain ⟨n, hn⟩ : ∃ n, q.done.length = n := ⟨_, rfl⟩
  rw [hn] at c2 HC
  have HN := hid_q hn
  clear h hl e1 hI hn
  go_enter Try.func30, Try.ntmps30
  go_wp2_with (go_at_call 55; refine HC.out.mono ?_; rintro e w1 ⟨v1, rfl, ho1, hb1⟩)
  go_ret
  exact ⟨v1, rfl, by rw [HN.out]; exact ho1, hb1⟩
theorem size_intQ (W : World) : (sizeOf (Try.prog.elem 25)).run Try.prog W = .ok 1 W := by kernel_rfl
theorem elem_intQ : Try.prog.underlying 25 = some (.slice (Try.prog.elem 25)) := by kernel_rfl
/-- A row of numbers from its n-th on. -/
theorem own_drop {w : World} {base e : Nat} {v : Value} {l : List Int} (h : w.ownsRow base e 1 v l.length (l.map (Value.int .i64))) {n : Nat} (hn : n ≤ l.length) :
    ∃ ad cap, (∀ W, (Instr.sliceAt 25 v (some (.int .i64 (n : Int))) none none).run Try.prog W = .ok (.slice ad (l.length - n) cap) W) ∧ IsInts w (.slice ad (l.length - n) cap) (l.drop n) := by
  have hI := isInts_own h rfl
  obtain ⟨_, ⟨hv, hd⟩ | ⟨g, cap, cur, hv, hb, hg, hnc, hm, hsz, htk⟩⟩ := h
  · have h0 : l = [] := List.length_eq_zero_iff.1 hd
    subst h0
    have hn0 : n = 0 := by simpa using hn
    subst hn0
    refine ⟨none, 0, fun W => ?_, isInts_nil w⟩
    rw [hv, run_sliceAt_slice W _ _ _ _ _ elem_intQ, run_slice_l W _ _ _ _ elem_intQ _ _ (by omega) (by simp), size_intQ]
    rfl
  · refine ⟨if cap = n then some ⟨g, 0, none⟩ else some ⟨g, n, none⟩, cap - n, fun W => ?_, ?_⟩
    · rw [hv, run_sliceAt_slice W _ _ _ _ _ elem_intQ, run_slice_l W _ _ _ _ elem_intQ _ _ (by omega) (by omega), size_intQ]
      simp [Result.andThen, sliced, Addr.add_lit]
    · obtain ⟨ad, b, off, cap', e1, ha, hz, hbB, hc⟩ := hI
      rw [hv] at e1
      injection e1 with e2 e3 e4
      refine ⟨_, b, off + n, _, by rw [List.length_drop], fun hp => ?_, fun hno => (by split at hno <;> cases hno), ?_, fun k hk => ?_⟩
      · rw [List.length_drop] at hp
        have h2 := ha (by omega)
        rw [← e2] at h2
        injection h2 with h2
        injection h2 with h2 h3
        rw [if_neg (by omega), ← h2, ← h3]
        simp
      · rcases hbB with h5 | h5
        · exact .inl h5
        · exact .inr (by rw [h5]; simp)
      · rw [List.length_drop] at hk
        rw [Nat.add_assoc, hc (n + k) (by omega)]
        simp [List.getD]
/-- A row of numbers up to its n-th. -/
theorem own_front {w : World} {base e : Nat} {v : Value} {l : List Int} (h : w.ownsRow base e 1 v l.length (l.map (Value.int .i64))) {n : Nat} (hn : n ≤ l.length) :
    ∃ ad cap, (∀ W, (Instr.sliceAt 25 v none (some (.int .i64 (n : Int))) none).run Try.prog W = .ok (.slice ad n cap) W) ∧ IsInts w (.slice ad n cap) (l.take n) := by
  have hI := isInts_own h rfl
  have hlt : (l.take n).length = n := by rw [List.length_take]; omega
  obtain ⟨_, ⟨hv, hd⟩ | ⟨g, cap, cur, hv, hb, hg, hnc, hm, hsz, htk⟩⟩ := h
  · have h0 : l = [] := List.length_eq_zero_iff.1 hd
    subst h0
    have hn0 : n = 0 := by simpa using hn
    subst hn0
    refine ⟨none, 0, fun W => ?_, isInts_nil w⟩
    rw [hv, run_sliceAt_slice W _ _ _ _ _ elem_intQ, run_slice_h W _ _ _ _ elem_intQ _ _ (by omega) (by simp), size_intQ]
    rfl
  · refine ⟨some ⟨g, 0, none⟩, cap, fun W => ?_, ?_⟩
    · rw [hv, run_sliceAt_slice W _ _ _ _ _ elem_intQ, run_slice_h W _ _ _ _ elem_intQ _ _ (by omega) (by omega), size_intQ]
      simp [Result.andThen, sliced, Addr.add_lit]
    · obtain ⟨ad, b, off, cap', e1, ha, hz, hbB, hc⟩ := hI
      rw [hv] at e1
      injection e1 with e2 e3 e4
      refine ⟨_, b, off, _, by rw [hlt], fun hp => ?_, fun hno => (by cases hno), ?_, fun k hk => ?_⟩
      · rw [hlt] at hp
        have h2 := ha (by omega)
        rw [← e2] at h2
        exact h2
      · rcases hbB with h5 | h5
        · exact .inl h5
        · exact .inr (by rw [h5]; simp)
      · rw [hlt] at hk
        rw [hc k (by omega)]
        simp [List.getD, hk]
set_option maxHeartbeats 4000000 in
set_option maxRecDepth 100000 in
theorem since_crs {w0 w : World} {R : Nat} {S F : Value} {q : Crs} {c : CLay} (h : CrsAt w0 w R S F q c) {t : Int} (h1 : 1 ≤ t) (h6 : t ≤ 6) {n : Nat} (hn : q.began t = some n) (hnl : n ≤ q.done.length) (hl : q.done.length ≤ 1000) :
    Calls Try.prog 47 #[.pointer (some ⟨R, 0, none⟩), .int .i64 t] w fun e w' => ∃ v', e = .returned v' ∧ IsInts w' v' (q.done.drop n) ∧ Below w.heap.size w w' := by
  have c2 := h.c2
  have c3 := h.c3
  obtain ⟨m, hm⟩ := h.beg
  have hwf := wf_deal h1 h6
  obtain ⟨ad1, cap1, e1, -⟩ := own_slice3 h.done
  have hrow := h.done
  rw [e1] at hrow c2
  obtain ⟨ad2, cap2, hsl, hI⟩ := own_drop hrow hnl
  have hg : (begM q.began t).getD (.int .i64 0) = .int .i64 (n : Int) := by unfold begM; rw [hn]; rfl
  have hlk0 : (Instr.lookup 71 (.map (some c.B)) (.int .i64 t) false).run Try.prog w.drew = .ok (.int .i64 (n : Int)) w.drew := by
    have := (MapIs.drew hm).look false Try.underlying71 (zero_intQ _) hwf
    rw [hg] at this
    exact this
  obtain ⟨M, hM⟩ : ∃ M, q.done.length - n = M := ⟨_, rfl⟩
  obtain ⟨N, hN⟩ : ∃ N, q.done.length = N := ⟨_, rfl⟩
  rw [hM] at hsl hI
  rw [hN] at hsl c2
  have HC : Hid (∀ W, Below w.heap.size w W → Calls Try.prog 55 #[.slice ad2 M cap2] W fun e w' => ∃ v', e = .returned v' ∧ w'.ownsRow W.heap.size 3 1 v' (q.done.drop n).length ((q.done.drop n).map (Value.int .i64)) ∧ Below W.heap.size W w') := fun W hW =>
    clone_ints (q.done.drop n) _ W (hI.below hW (Nat.le_refl _)) (by rw [List.length_drop]; omega)
  have HKC : Hid (∀ W, Below w.heap.size w W → W.cell? ⟨R, 2, none⟩ = some (.slice ad1 N cap1) ∧ W.cell? ⟨R, 3, none⟩ = some (.map (some c.B))) := fun W hW => ⟨(hW.cell (p := ⟨R, 2, none⟩) h.lt).trans c2, (hW.cell (p := ⟨R, 3, none⟩) h.lt).trans c3⟩
  clear h hm h1 h6 hn hnl hl e1 hrow hI hg hM hN
  go_enter Try.func47, Try.ntmps47
  go_upto_region 1 with (fail)
  go_region_held3 (fun w' => w'.cell? ⟨R, 2, none⟩ = some (.slice ad1 N cap1) ∧ w'.cell? ⟨R, 3, none⟩ = some (.map (some c.B))) (first | exact ⟨ke0, ke1⟩ | exact ⟨c2, c3⟩) (first | (go_at_call 55; refine (HC.out _ (Below.refl _ w).drew).mono ?_; rintro e w1 ⟨v1, rfl, ho1, hb0⟩; have hb1 : Below w.heap.size w w1 := (Below.refl _ w).drew.trans hb0; clear hb0; obtain ⟨ke0, ke1⟩ := HKC.out w1 hb1))
  all_goals
    go_wp2_with fail
    go_ret
    exact ⟨_, rfl, isInts_own ho1 rfl, hb1⟩
end Go.Proofs.Ytccjognnehoodag
