/-
  PROVED HERE: plain facts: how long the lists can be while deals ask; what aborting one makes of that.
  Conditions: none.
  PROVED HERE: slices.IndexFunc and slices.ContainsFunc over a slice of whole numbers, for any closure; strict.lane's two closures (is it older, is it younger). Old memory stays as it was.
  Conditions: what the closure answers is a premise.
-/
import Derived.Test.YtccjognnehoodahGreatMgag
import Derived.Test.YtccjognnehoodahGreatMgac
import Derived.Test.YtccjognnehoodahGreatMgbk
namespace Go.Proofs.YtccjognnehoodahGreat

theorem Good.tabs {r : Runr} (h : Good r) (hp : pot r ≤ 47) : r.tab.1.length ≤ 100 ∧ r.tab.2.length ≤ 100 ∧ r.told.length ≤ 47 ∧ r.vict.length ≤ 6 := by
  have h1 := h.size
  have h2 := h.vict
  unfold pot at hp
  exact ⟨by omega, by omega, by omega, by omega⟩
theorem abort0_pot {r : Runr} {t : Int} (h1 : 1 ≤ t) (h6 : t ≤ 6) (ho : r.out t = false) : pot (abort0 r t) ≤ pot r := by
  have hc : (cnt6 fun d => !setF r.out t true d) + 1 = cnt6 fun d => !r.out d := by
    rw [← cnt_drop (f := fun d => !r.out d) h1 h6 (by simp [ho])]
    congr 2
    funext d
    unfold setF
    split <;> rfl
  have h2 : sum6 (setF r.behind t []) ≤ sum6 r.behind := sum_mono fun d => by
    unfold setF
    split
    · simp
    · exact Nat.le_refl _
  have h3 := cnt_false (f := r.waits) (d := t)
  unfold pot abort0
  dsimp only
  rw [List.length_append, List.length_singleton]
  omega
theorem abort0_sum (r : Runr) (t : Int) : sum6 (abort0 r t).behind ≤ sum6 r.behind := sum_mono fun d => by
  show (setF r.behind t [] d).length ≤ _
  unfold setF
  split
  · simp
  · exact Nat.le_refl _
end Go.Proofs.YtccjognnehoodahGreat

namespace Go.Proofs.YtccjognnehoodahGreat
open Go.RowKit

theorem noneI_snoc {q : Int → Bool} {l : List Int} {k : Nat} {e : Int} (h : l.take (k + 1) = l.take k ++ [e]) (h1 : (l.take k).any q = false) (h2 : q e = false) : (l.take (k + 1)).any q = false := by
  rw [h, List.any_append, h1]; simp [h2]
/-- What IndexFunc answers. -/
def FirstI (l : List Int) (q : Int → Bool) (n : Int) : Prop := (n = -1 ∧ l.any q = false) ∨ ∃ k : Nat, n = k ∧ k < l.length ∧ q (l.getD k 0) = true ∧ (l.take k).any q = false
theorem getD_memL {l : List Int} {k : Nat} (h : k < l.length) : l.getD k 0 ∈ l := by simp [List.getD, h]
theorem FirstI.sign {l : List Int} {q : Int → Bool} {n : Int} (h : FirstI l q n) : decide (0 ≤ n) = l.any q := by
  rcases h with ⟨rfl, h⟩ | ⟨k, rfl, hk, hq, _⟩
  · rw [h]; rfl
  · have : l.any q = true := List.any_eq_true.2 ⟨_, getD_memL hk, hq⟩
    rw [this]; simp
theorem FirstI.none {l : List Int} {q : Int → Bool} (h : l.any q = false) : FirstI l q (-1) := .inl ⟨rfl, h⟩
theorem FirstI.some {l : List Int} {q : Int → Bool} {k : Nat} {e : Int} (hk : k < l.length) (he : l.getD k 0 = e) (hq : q e = true) (h : (l.take k).any q = false) : FirstI l q (k : Int) := .inr ⟨k, rfl, hk, by rw [he]; exact hq, h⟩
set_option maxHeartbeats 4000000 in
theorem index_int (l : List Int) (v : Value) (q : Int → Bool) (N : Nat) (C : Array Value) (w : World) (hcall : ∀ (args : Array Value) (W : World), (callFunc N args).run Tryz.prog W = .ok (.enter N args) W) (hI : IsInts w v l) (hlen : l.length ≤ 140737488351)
    (hp : ∀ W : World, Below w.heap.size w W → ∀ e ∈ l, Calls Tryz.prog N (#[.int .i64 e] ++ C) W fun r w' => r = .returned (.bool (q e)) ∧ Below W.heap.size W w') :
    Calls Tryz.prog 94 #[v, .func (.func N) #[] C] w fun r w' => ∃ n : Int, r = .returned (.int .i64 n) ∧ FirstI l q n ∧ Below w.heap.size w w' := by
  have HI2 : Hid (IsInts w v l) := hI
  obtain ⟨ad, b, off, cap, rfl, ha, _, hbB, hops⟩ := hI
  have HO : Hid (∀ W, Below w.heap.size w W → ∀ k, k < l.length → ad = some ⟨b, off, none⟩ ∧ W.cell? ⟨b, off + k, none⟩ = some (.int .i64 (l.getD k 0))) := fun W hW k hk => ⟨ha (by omega), by
    have hb : b < w.heap.size := by
      rcases hbB with h | h
      · exact h
      · subst h; simp at hk
    exact (hW.cell (p := ⟨b, off + k, none⟩) hb).trans (hops k hk)⟩
  have HP : Hid (∀ W : World, Below w.heap.size w W → ∀ e ∈ l, Calls Tryz.prog N (#[.int .i64 e] ++ C) W fun r w' => r = .returned (.bool (q e)) ∧ Below W.heap.size W w') := hp
  clear ha hbB hops hp HI2
  go_enter Tryz.func94, Tryz.ntmps94
  go_wp2
  go_loopw [8] (fun v8 wr => ∃ k : Nat, k ≤ l.length ∧ v8 = .int .i64 k ∧ (l.take k).any q = false ∧ Below w.heap.size w wr) (fun v8 _ => l.length - (intOf v8).toNat)
  case atStart => exact ⟨0, Nat.zero_le _, rfl, by simp, Below.refl _ _⟩
  case round =>
    obtain ⟨k, hk, rfl, hno, hbel⟩ := hrel
    have HNO : Hid ((l.take k).any q = false) := hno
    clear hno
    have hsz := hbel.size
    by_cases hlt : k < l.length
    · have hlt' : (k : Int) < (l.length : Int) := by omega
      obtain ⟨rfl, c0⟩ := HO.out wr hbel k hlt
      obtain ⟨t, ho⟩ : ∃ o : Int, l.getD k 0 = o := ⟨_, rfl⟩
      rw [ho] at c0
      have hmem : t ∈ l := by rw [← ho]; exact getD_memL hlt
      have HT : Hid (l.take (k + 1) = l.take k ++ [t]) := by
        show l.take (k + 1) = l.take k ++ [t]
        rw [List.take_succ_eq_append_getElem hlt, ← ho]; simp [List.getD, List.getElem?_eq_getElem hlt]
      have HM : Hid (t ∈ l) := hmem
      have HG : Hid (l.getD k 0 = t) := ho
      clear ho HO hmem
      cases hq : q t with
      | false =>
        have HQ : Hid (q t = false) := hq
        have HC : Hid (Calls Tryz.prog N (#[.int .i64 t] ++ C) wr fun r w' => r = .returned (.bool false) ∧ Below wr.heap.size wr w') := hq ▸ HP.out wr hbel _ HM.out
        clear hq
        go_wp2_with fail
        refine HC.out.mono ?_
        rintro e w1 ⟨rfl, hb1⟩
        go_wp2_with fail
        go_roundw
        case rel => exact ⟨k + 1, by omega, by go_num, noneI_snoc HT.out HNO.out HQ.out, hbel.trans (hb1.mono hsz)⟩
        case measure => simp [intOf]; omega
      | true =>
        have HQ : Hid (q t = true) := hq
        have HC : Hid (Calls Tryz.prog N (#[.int .i64 t] ++ C) wr fun r w' => r = .returned (.bool true) ∧ Below wr.heap.size wr w') := hq ▸ HP.out wr hbel _ HM.out
        clear hq
        go_wp2_with fail
        refine HC.out.mono ?_
        rintro e w1 ⟨rfl, hb1⟩
        go_wp2_with fail
        go_ret
        exact ⟨_, rfl, FirstI.some hlt HG.out HQ.out HNO.out, hbel.trans (hb1.mono hsz)⟩
    · have hlt' : ¬ (k : Int) < (l.length : Int) := by omega
      go_wp2_with fail
      go_ret
      refine ⟨_, rfl, FirstI.none ?_, hbel⟩
      have h0 := HNO.out
      rw [List.take_of_length_le (by omega)] at h0
      exact h0
theorem contains_int (l : List Int) (v : Value) (q : Int → Bool) (N : Nat) (C : Array Value) (w : World) (hcall : ∀ (args : Array Value) (W : World), (callFunc N args).run Tryz.prog W = .ok (.enter N args) W) (hI : IsInts w v l) (hlen : l.length ≤ 140737488351)
    (hp : ∀ W : World, Below w.heap.size w W → ∀ e ∈ l, Calls Tryz.prog N (#[.int .i64 e] ++ C) W fun r w' => r = .returned (.bool (q e)) ∧ Below W.heap.size W w') :
    Calls Tryz.prog 58 #[v, .func (.func N) #[] C] w fun r w' => r = .returned (.bool (l.any q)) ∧ Below w.heap.size w w' := by
  have HC : Hid (Calls Tryz.prog 94 #[v, .func (.func N) #[] C] w fun r w' => ∃ n : Int, r = .returned (.int .i64 n) ∧ FirstI l q n ∧ Below w.heap.size w w') := index_int l v q N C w hcall hI hlen hp
  clear hp hI hcall
  go_enter Tryz.func58, Tryz.ntmps58
  go_wp2_with (go_at_call 94; refine HC.out.mono ?_; rintro e w1 ⟨n, rfl, hn, hb1⟩; have hn1 := hn.sign; clear hn)
  all_goals go_ret
  all_goals exact ⟨ret_bool (by simp_all), hb1⟩
theorem older_fn (e t : Int) (P : Nat) (w : World) (h : w.cell? ⟨P, 0, none⟩ = some (.int .i64 t)) : Calls Tryz.prog 146 (#[.int .i64 e] ++ #[.pointer (some ⟨P, 0, none⟩)]) w fun r w' => r = .returned (.bool (decide (e < t))) ∧ Below w.heap.size w w' := by
  go_enter Tryz.func146, Tryz.ntmps146
  go_wp2
  go_ret
  exact ⟨rfl, Below.refl _ _⟩
theorem younger_fn (e t : Int) (P : Nat) (w : World) (h : w.cell? ⟨P, 0, none⟩ = some (.int .i64 t)) : Calls Tryz.prog 163 (#[.int .i64 e] ++ #[.pointer (some ⟨P, 0, none⟩)]) w fun r w' => r = .returned (.bool (decide (t < e))) ∧ Below w.heap.size w w' := by
  go_enter Tryz.func163, Tryz.ntmps163
  go_wp2
  go_ret
  exact ⟨rfl, Below.refl _ _⟩
theorem call_older : ∀ (args : Array Value) (W : World), (callFunc 146 args).run Tryz.prog W = .ok (.enter 146 args) W := fun args W => by kernel_rfl
theorem call_younger : ∀ (args : Array Value) (W : World), (callFunc 163 args).run Tryz.prog W = .ok (.enter 163 args) W := fun args W => by kernel_rfl
/-- Is one of them older? -/
theorem older_any (l : List Int) (v : Value) (t : Int) (P : Nat) (w : World) (hI : IsInts w v l) (hlen : l.length ≤ 6) (h : w.cell? ⟨P, 0, none⟩ = some (.int .i64 t)) :
    Calls Tryz.prog 58 #[v, .func (.func 146) #[] #[.pointer (some ⟨P, 0, none⟩)]] w fun r w' => r = .returned (.bool (l.any fun x => decide (x < t))) ∧ Below w.heap.size w w' :=
  contains_int l v _ _ _ w call_older hI (by omega) fun W hW e _ => older_fn e t P W ((hW.cell (p := ⟨P, 0, none⟩) (World.block_lt_of_cell? w _ h)).trans h)
/-- Which of them is younger first? -/
theorem younger_any (l : List Int) (v : Value) (t : Int) (P : Nat) (w : World) (hI : IsInts w v l) (hlen : l.length ≤ 6) (h : w.cell? ⟨P, 0, none⟩ = some (.int .i64 t)) :
    Calls Tryz.prog 94 #[v, .func (.func 163) #[] #[.pointer (some ⟨P, 0, none⟩)]] w fun r w' => ∃ n : Int, r = .returned (.int .i64 n) ∧ FirstI l (fun x => decide (t < x)) n ∧ Below w.heap.size w w' :=
  index_int l v _ _ _ w call_younger hI (by omega) fun W hW e _ => younger_fn e t P W ((hW.cell (p := ⟨P, 0, none⟩) (World.block_lt_of_cell? w _ h)).trans h)
end Go.Proofs.YtccjognnehoodahGreat
