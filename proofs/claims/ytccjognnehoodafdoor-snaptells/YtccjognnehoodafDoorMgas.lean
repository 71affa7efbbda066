/-
  PROVED HERE: laneref1.In tells whether a number is in a list. Nothing turns.
  Conditions: none.
  PROVED HERE: laneref2.read, who and AtOnce answer as the plain functions of KindPlain say. Old memory stays as it was.
  Conditions: the lists are short.
-/
import Derived.Test.YtccjognnehoodafDoorMgaf
import Derived.Test.YtccjognnehoodafDoorMgah
import Derived.Test.YtccjognnehoodafDoorMgap
import Derived.Test.YtccjognnehoodafDoorMgae
import Derived.Test.YtccjognnehoodafDoorMgal
import Derived.BigQuiet
import Derived.OwnWalk
namespace Go.Proofs.YtccjognnehoodafDoor
open Go.RowKit

theorem retB {a b : Bool} (h : a = b) : Ending.returned (.bool a) = .returned (.bool b) := by rw [h]
set_option maxHeartbeats 2000000 in
theorem in_any (l : List Int) (v : Value) (n : Int) (w : World) (hI : IsInts w v l) (hl : l.length ≤ 1000) :
    Calls Tryd.prog 21 #[v, .int .i64 n] w fun e w' => e = .returned (.bool (inB l n)) ∧ w' = w := by
  obtain ⟨ad, b, off, cap, rfl, ha, -, -, hc⟩ := hI
  have HE : Hid (∀ k, k < l.length → ad = some ⟨b, off, none⟩ ∧ w.cell? ⟨b, off + k, none⟩ = some (.int .i64 (l.getD k 0))) := fun k hk => ⟨ha (by omega), hc k hk⟩
  clear ha hc
  go_enter Tryd.func21, Tryd.ntmps21
  go_wp2_with fail
  go_loopw [5] (fun v5 wr => ∃ k : Nat, k ≤ l.length ∧ v5 = .int .i64 k ∧ inB (l.take k) n = false ∧ wr = w) (fun v5 _ => l.length - (intOf v5).toNat)
  case atStart => exact ⟨0, Nat.zero_le _, rfl, rfl, rfl⟩
  case round =>
    obtain ⟨k, hk, rfl, hno, hwr⟩ := hrel
    rw [hwr]
    clear hwr
    have HNO : Hid (inB (l.take k) n = false) := hno
    clear hno
    by_cases hlt : k < l.length
    · obtain ⟨rfl, c0⟩ := HE.out k hlt
      obtain ⟨t, ho⟩ : ∃ t, l.getD k 0 = t := ⟨_, rfl⟩
      rw [ho] at c0
      have HM : Hid (t ∈ l) := by show t ∈ l; rw [← ho]; simp [List.getD, List.getElem?_eq_getElem hlt]
      have HT : Hid (l.take (k + 1) = l.take k ++ [t]) := by
        show l.take (k + 1) = l.take k ++ [t]
        rw [List.take_succ_eq_append_getElem hlt, ← ho]; simp [List.getD, List.getElem?_eq_getElem hlt]
      clear ho
      cases hq : (t == n) with
      | false =>
        have HN : Hid (inB (l.take (k + 1)) n = false) := by
          show inB (l.take (k + 1)) n = false
          have h1 := inB_not.1 HNO.out
          refine inB_not.2 fun h => ?_
          rw [HT.out, List.mem_append, List.mem_singleton] at h
          rcases h with h | h
          · exact h1 h
          · rw [h] at hq; simp at hq
        go_wp2_with fail
        go_roundw
        case rel => exact ⟨k + 1, by omega, by go_num, HN.out, trivial⟩
        case measure => simp [intOf]; omega
      | true =>
        have HR : Hid (inB l n = true) := by
          show inB l n = true
          have : t = n := by simpa using hq
          rw [← this]; exact inB_iff.2 HM.out
        go_wp2_with fail
        go_ret
        exact ⟨retB HR.out.symm, rfl⟩
    · have HR : Hid (inB l n = false) := by
        show inB l n = false
        have h0 := HNO.out
        rw [List.take_of_length_le (by omega)] at h0
        exact h0
      go_wp2_with fail
      go_ret
      exact ⟨retB HR.out.symm, rfl⟩
end Go.Proofs.YtccjognnehoodafDoor

namespace Go.Proofs.YtccjognnehoodafDoor
open Go.RowKit

/-- A deal of a run as a value: what it saw and what it wrote lie in two slices. -/
abbrev dlV (t : Int) (r : Dl) (sv wv : Value) : Value := .agg #[.int .i64 t, .int .i64 r.began, .int .i64 r.ended, sv, wv]
structure DlIs (w : World) (r : Dl) (sv wv : Value) : Prop where
  seen : IsOps w sv r.seen
  wrote : IsInts w wv r.wrote
  short : r.seen.length ≤ 100 ∧ r.wrote.length ≤ 100
theorem DlIs.below {w w1 : World} {B : Nat} {r : Dl} {sv wv : Value} (h : DlIs w r sv wv) (hb : Below B w w1) (hB : w.heap.size ≤ B) : DlIs w1 r sv wv := ⟨h.seen.below hb hB, h.wrote.below hb hB, h.short⟩
theorem read_step {t : Int} {r : Dl} {item : Int} {k : Nat} (hk : k < r.seen.length) : ((r.seen.take (k + 1)).any fun x => x.2.1 == item && x.2.2 != t) = (((r.seen.take k).any fun x => x.2.1 == item && x.2.2 != t) || ((opAt r.seen k).2.1 == item && (opAt r.seen k).2.2 != t)) := by
  rw [List.take_succ_eq_append_getElem hk]
  have : r.seen[k] = opAt r.seen k := by simp [opAt, List.getD, List.getElem?_eq_getElem hk]
  simp [this]
set_option maxHeartbeats 4000000 in
theorem read_any (t : Int) (r : Dl) (sv wv : Value) (item : Int) (w : World) (hD : DlIs w r sv wv) :
    Calls Tryd.prog 23 #[dlV t r sv wv, .int .i64 item] w fun e w' => e = .returned (.bool (readK t r item)) ∧ Below w.heap.size w w' := by
  obtain ⟨bg, ed, l, wt⟩ := r
  obtain ⟨⟨ad, b, off, cap, hsv, ha, -, hbB, hops⟩, -, hsh, -⟩ := hD
  dsimp only at hsv ha hbB hops hsh
  subst hsv
  have HS : Hid (∀ k, k < l.length → ((l.take (k + 1)).any fun x => x.2.1 == item && x.2.2 != t) = (((l.take k).any fun x => x.2.1 == item && x.2.2 != t) || ((opAt l k).2.1 == item && (opAt l k).2.2 != t))) := fun k hk => read_step (r := ⟨bg, ed, l, wt⟩) hk
  have HA : Hid (readK t ⟨bg, ed, l, wt⟩ item = (l.take l.length).any fun x => x.2.1 == item && x.2.2 != t) := by show _ = _; rw [List.take_length]; rfl
  have HM : Hid (∀ k, k < l.length → ((opAt l k).2.1 == item && (opAt l k).2.2 != t) = true → readK t ⟨bg, ed, l, wt⟩ item = true) := fun k hk h => by
    refine List.any_eq_true.2 ⟨opAt l k, ?_, h⟩
    show opAt l k ∈ l
    simp [opAt, List.getD, List.getElem?_eq_getElem hk]
  obtain ⟨W, hW⟩ : ∃ W, W = w.alloc (.cells #[.int .i64 t, .int .i64 bg, .int .i64 ed, .slice ad l.length cap, wv] 39) := ⟨_, rfl⟩
  have hB : Below w.heap.size w W := by rw [hW]; exact (Below.refl _ w).alloc (Nat.le_refl _) _
  have HE : Hid (∀ V, Below W.heap.size W V → V.cell? ⟨w.heap.size, 0, none⟩ = some (.int .i64 t) ∧ V.cell? ⟨w.heap.size, 3, none⟩ = some (.slice ad l.length cap) ∧ ∀ k, k < l.length → ad = some ⟨b, off, none⟩ ∧ V.cell? ⟨b, off + k * 3, none⟩ = some (.int .i64 (opAt l k).1) ∧ V.cell? ⟨b, off + k * 3 + 1, none⟩ = some (.int .i64 (opAt l k).2.1) ∧ V.cell? ⟨b, off + k * 3 + 2, none⟩ = some (.int .i64 (opAt l k).2.2)) := fun V hV => by
    have hsz : w.heap.size < W.heap.size := by rw [hW]; simp
    refine ⟨(hV.cell (p := ⟨w.heap.size, 0, none⟩) hsz).trans (by rw [hW]; simp), (hV.cell (p := ⟨w.heap.size, 3, none⟩) hsz).trans (by rw [hW]; simp), fun k hk => ⟨ha (by omega), (hops.below hB hbB).below hV ?_ k hk⟩⟩
    rcases hbB with h | h
    · exact .inl (by omega)
    · exact .inr h
  have HB : Hid (∀ V, Below W.heap.size W V → Below w.heap.size w V) := fun V hV => hB.trans (hV.mono (hB.size))
  clear ha hbB hops hB
  go_enter Tryd.func23, Tryd.ntmps23
  go_wp2_with fail
  rw [← hW]
  clear hW
  go_loopw [5] (fun v5 wr => ∃ k : Nat, k ≤ l.length ∧ v5 = .int .i64 k ∧ ((l.take k).any fun x => x.2.1 == item && x.2.2 != t) = false ∧ Below W.heap.size W wr) (fun v5 _ => l.length - (intOf v5).toNat)
  case atStart => exact ⟨0, Nat.zero_le _, rfl, rfl, Below.refl _ _⟩
  case round =>
    obtain ⟨k, hk, rfl, hno, hbel⟩ := hrel
    obtain ⟨p0, p3, hrest⟩ := HE.out wr hbel
    have HNO : Hid (((l.take k).any fun x => x.2.1 == item && x.2.2 != t) = false) := hno
    clear hno
    by_cases hlt : k < l.length
    · obtain ⟨rfl, c0, c1, c2⟩ := hrest k hlt
      clear hrest
      have hs := HS.out k hlt
      rw [HNO.out, Bool.false_or] at hs
      have hm := HM.out k hlt
      obtain ⟨⟨x, it, fr⟩, ho⟩ : ∃ o : Op3, opAt l k = o := ⟨_, rfl⟩
      rw [ho] at c0 c1 c2 hs hm
      dsimp only at c0 c1 c2 hs hm
      clear ho
      have HS1 : Hid (((l.take (k + 1)).any fun x => x.2.1 == item && x.2.2 != t) = (it == item && fr != t)) := hs
      have HM1 : Hid ((it == item && fr != t) = true → readK t ⟨bg, ed, l, wt⟩ item = true) := hm
      clear hs hm
      cases hq : (it == item) with
      | false =>
        have HQ : Hid (((l.take (k + 1)).any fun x => x.2.1 == item && x.2.2 != t) = false) := by show _ = false; rw [HS1.out, hq]; rfl
        go_wp2_with fail
        go_quiet (fail)
        go_wp2_with fail
        go_roundw
        case rel => exact ⟨k + 1, by omega, by go_num, HQ.out, below_drewN hbel _⟩
        case measure => simp [intOf]; omega
      | true =>
        cases hf : (fr == t) with
        | true =>
          have HQ : Hid (((l.take (k + 1)).any fun x => x.2.1 == item && x.2.2 != t) = false) := by show _ = false; rw [HS1.out, hq]; simp at hf ⊢; exact hf
          go_wp2_with fail
          go_quiet (fail)
          go_wp2_with fail
          go_roundw
          case rel => exact ⟨k + 1, by omega, by go_num, HQ.out, below_drewN hbel _⟩
          case measure => simp [intOf]; omega
        | false =>
          have HQ : Hid (readK t ⟨bg, ed, l, wt⟩ item = true) := HM1.out (by rw [hq]; simp at hf ⊢; exact hf)
          go_wp2_with fail
          go_quiet (fail)
          go_wp2_with fail
          go_ret
          exact ⟨retB HQ.out.symm, HB.out _ (below_drewN hbel _)⟩
    · clear hrest
      have HR : Hid (readK t ⟨bg, ed, l, wt⟩ item = false) := by
        show readK t ⟨bg, ed, l, wt⟩ item = false
        rw [HA.out, show l.length = k by omega]
        exact HNO.out
      go_wp2_with fail
      go_ret
      exact ⟨retB HR.out.symm, HB.out _ hbel⟩
end Go.Proofs.YtccjognnehoodafDoor
