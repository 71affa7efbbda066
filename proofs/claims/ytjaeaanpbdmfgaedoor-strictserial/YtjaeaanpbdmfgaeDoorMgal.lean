/-
  PROVED HERE: how a list of numbers lies in memory, as a slice value that came in or that the program made itself; and what is owned stays owned where nothing that was there turns.
  Conditions: none.
  PROVED HERE: nothing yet of package strict: what its Run is asked to answer (StrictC), for the laws that call it; how long that can be.
  Conditions: none.
  PROVED HERE: lanesame.Ops says yes of two slices that hold the same list of ops; nothing turns but the count of draws.
  Conditions: none.
  PROVED HERE: lanesame.Ints says yes of two slices that hold the same list of numbers; nothing turns but the count of draws.
  Conditions: none.
-/
import Derived.Test.YtjaeaanpbdmfgaeDoorProg
import Derived.WalkKit
import Derived.WalkSpells
import Derived.Handy
import Derived.Test.YtjaeaanpbdmfgaeDoorStrictPlain
import Derived.Test.YtjaeaanpbdmfgaeDoorDone
import Derived.Test.YtjaeaanpbdmfgaeDoorOps
import Derived.Deep.QuietTactic
import Derived.BigQuiet
import Derived.WalkSmall
namespace Go.Proofs.YtjaeaanpbdmfgaeDoor
open Go.RowKit

/-- A slice value that holds a list of numbers. -/
def IsInts (w : World) (v : Value) (l : List Int) : Prop :=
  ∃ (ad : Option Addr) (b off cap : Nat), v = .slice ad l.length cap ∧ (0 < l.length → ad = some ⟨b, off, none⟩) ∧ (ad = none → l.length = 0 ∧ cap = 0) ∧ (b < w.heap.size ∨ l = []) ∧ ∀ i, i < l.length → w.cell? ⟨b, off + i, none⟩ = some (.int .i64 (l.getD i 0))
theorem IsInts.below {w w1 : World} {B : Nat} {v : Value} {l : List Int} (h : IsInts w v l) (hb : Below B w w1) (hB : w.heap.size ≤ B) : IsInts w1 v l := by
  obtain ⟨ad, b, off, cap, hv, ha, hn, hbB, hc⟩ := h
  have hs := hb.size
  refine ⟨ad, b, off, cap, hv, ha, hn, ?_, fun i hi => ?_⟩
  · rcases hbB with h | h
    · exact .inl (by omega)
    · exact .inr h
  · rcases hbB with h | h
    · rw [hb.cell (p := ⟨b, off + i, none⟩) (by simp; omega)]; exact hc i hi
    · subst h; simp at hi
theorem isInts_nil (w : World) : IsInts w (.slice none 0 0) [] := ⟨none, 0, 0, 0, rfl, fun h => absurd h (by simp), fun _ => ⟨rfl, rfl⟩, .inr rfl, fun i hi => by simp at hi⟩
theorem isInts_own {w : World} {base e n : Nat} {v : Value} {l : List Int} (h : w.ownsRow base e 1 v n (l.map (Value.int .i64))) (hl : l.length = n) : IsInts w v l := by
  have h' := h
  obtain ⟨_, ⟨hv, hd⟩ | ⟨g, cap, cur, hv, hb, hg, hn, hm, hsz, htk⟩⟩ := h'
  · have : l = [] := List.length_eq_zero_iff.1 (by omega)
    subst this
    rw [hv]
    exact isInts_nil w
  · refine ⟨some ⟨g, 0, none⟩, g, 0, cap, by rw [hl]; exact hv, fun _ => rfl, fun h => (by simp at h), .inl (h.lt g (by rw [hv]; rfl)).2, fun i hi => ?_⟩
    have := h.cells (g := g) (by rw [hv]; rfl) i (.int .i64 (l.getD i 0)) (by simp [List.getD, hi])
    rw [Addr.add_lit] at this
    exact this
/-- What is owned stays owned where nothing that was there turns. -/
theorem own_below {w w1 : World} {base e size n B : Nat} {v : Value} {xs : List Value} (h : w.ownsRow base e size v n xs) (hb : Below B w w1) (hB : w.heap.size ≤ B) : w1.ownsRow base e size v n xs := by
  have h' := h
  obtain ⟨hl, hd | ⟨g, cap, cur, hv, hbg, hg, hn, hm, hsz, htk⟩⟩ := h
  · exact ⟨hl, .inl hd⟩
  · refine ⟨hl, .inr ⟨g, cap, cur, hv, hbg, ?_, hn, hm, hsz, htk⟩⟩
    have hlt : g < w.heap.size := (h'.lt g (by rw [hv]; rfl)).2
    rw [hb.block g (by omega)]; exact hg
theorem infoInt : (Tryd.prog.info? 3).map (fun i => (i.zero, i.size, i.bytes)) = some (some (.int .i64 0), 1, 8) := by kernel_rfl
end Go.Proofs.YtjaeaanpbdmfgaeDoor

namespace Go.Proofs.YtjaeaanpbdmfgaeDoor
open Go.RowKit

/-- What Run answers, of any ops, by any way. -/
def strictU (l : List Op3) (way : Int) : (List Op3 × List Int) × Int :=
  if (chk l).2 ≠ 0 then (([], []), (chk l).2) else if way < 0 ∨ 2 < way then (([], []), 1) else (((strictR way l).told, (strictR way l).vict), 0)
/-- What package strict is asked to keep. -/
def StrictC : Prop := ∀ (l : List Op3) (v : Value) (way : Int) (w : World), IsOps w v l → Calls Tryd.prog 20 #[v, .int .i64 way] w fun e w' => ∃ v1 v2, e = .returned (.tuple #[v1, v2, errV (strictU l way).2]) ∧ IsOps w' v1 (strictU l way).1.1 ∧ IsInts w' v2 (strictU l way).1.2 ∧ Below w.heap.size w w'
theorem chk_each {l : List Op3} (h : (chk l).2 = 0) : ∀ o ∈ l, isOpB o = true := chk_ops h
theorem strictU_len (l : List Op3) (way : Int) : (strictU l way).1.1.length ≤ 46 ∧ (strictU l way).1.2.length ≤ 6 := by
  unfold strictU
  split
  · exact ⟨by simp, by simp⟩
  · rename_i hc
    have hc' : (chk l).2 = 0 := by simpa using hc
    split
    · exact ⟨by simp, by simp⟩
    · have h1 := strict_ok way l (chk_each hc') l.length (Nat.le_refl _)
      have h2 := chk_len hc'
      rw [List.take_length] at h1
      have h3 := h1.1.vict
      have h4 := h1.2
      unfold pot at h4
      exact ⟨by show (strictR way l).told.length ≤ 46; omega, by show (strictR way l).vict.length ≤ 6; omega⟩
theorem errV_cases (n : Int) : (n = 0 ∧ errV n = .nilIface) ∨ (n ≠ 0 ∧ errV n = .iface 66 (.int .i64 n)) := by
  by_cases h : n = 0
  · exact .inl ⟨h, by rw [h]; rfl⟩
  · exact .inr ⟨h, errV_ne h⟩
end Go.Proofs.YtjaeaanpbdmfgaeDoor

namespace Go.Proofs.YtjaeaanpbdmfgaeDoor
open Go.RowKit

set_option maxHeartbeats 4000000 in
theorem same_ops (l : List Op3) (v u : Value) (w : World) (hv : IsOps w v l) (hu : IsOps w u l) (hlen : l.length ≤ 140737488351) :
    Calls Tryd.prog 22 #[v, u] w fun e w' => e = .returned (.bool true) ∧ Below w.heap.size w w' := by
  obtain ⟨ad, b, off, cap, rfl, ha, _, hbB, hops⟩ := hv
  obtain ⟨ad2, b2, off2, cap2, rfl, ha2, _, hbB2, hops2⟩ := hu
  go_enter Tryd.func22, Tryd.ntmps22
  go_wp2
  go_loopw [5] (fun v5 wr => ∃ k : Nat, k ≤ l.length ∧ v5 = .int .i64 k ∧ Below w.heap.size w wr) (fun v5 _ => l.length - (intOf v5).toNat)
  case atStart => exact ⟨0, Nat.zero_le _, rfl, Below.refl _ _⟩
  case round =>
    obtain ⟨k, hk, rfl, hbel⟩ := hrel
    by_cases hlt : k < l.length
    · obtain rfl := ha (by omega)
      obtain rfl := ha2 (by omega)
      obtain ⟨c0, c1, c2⟩ := (hops.below hbel hbB) k hlt
      obtain ⟨d0, d1, d2⟩ := (hops2.below hbel hbB2) k hlt
      obtain ⟨⟨t, a, i⟩, ho⟩ : ∃ o : Op3, l.getD k (0, 0, 0) = o := ⟨_, rfl⟩
      rw [ho] at c0 c1 c2 d0 d1 d2
      simp only at c0 c1 c2 d0 d1 d2
      clear ho hops hops2 ha ha2 hbB hbB2
      go_wp2
      go_quiet (fail)
      go_wp2
      go_roundw
      case rel => exact ⟨k + 1, by omega, by go_num, below_drewN hbel _⟩
      case measure => simp [intOf]; omega
    · go_wp2
      go_ret
      exact ⟨rfl, hbel⟩
end Go.Proofs.YtjaeaanpbdmfgaeDoor

namespace Go.Proofs.YtjaeaanpbdmfgaeDoor
open Go.RowKit

set_option maxHeartbeats 4000000 in
theorem same_ints (l : List Int) (v u : Value) (w : World) (hv : IsInts w v l) (hu : IsInts w u l) (hlen : l.length ≤ 140737488351) :
    Calls Tryd.prog 17 #[v, u] w fun e w' => e = .returned (.bool true) ∧ Below w.heap.size w w' := by
  have hv' := hv
  have hu' := hu
  obtain ⟨ad, b, off, cap, rfl, ha, _, hbB, hc⟩ := hv
  obtain ⟨ad2, b2, off2, cap2, rfl, ha2, _, hbB2, hc2⟩ := hu
  have H : Hid (∀ k, k < l.length → ad = some ⟨b, off, none⟩ ∧ ad2 = some ⟨b2, off2, none⟩ ∧ b < w.heap.size ∧ b2 < w.heap.size ∧ w.cell? ⟨b, off + k, none⟩ = some (.int .i64 (l.getD k 0)) ∧ w.cell? ⟨b2, off2 + k, none⟩ = some (.int .i64 (l.getD k 0))) := fun k hk => by
    refine ⟨ha (by omega), ha2 (by omega), ?_, ?_, hc k hk, hc2 k hk⟩
    · rcases hbB with h | h
      · exact h
      · subst h; simp at hk
    · rcases hbB2 with h | h
      · exact h
      · subst h; simp at hk
  clear hv' hu' ha ha2 hbB hbB2 hc hc2
  go_enter Tryd.func17, Tryd.ntmps17
  go_wp2
  go_loopw [5] (fun v5 wr => ∃ k : Nat, k ≤ l.length ∧ v5 = .int .i64 k ∧ Below w.heap.size w wr) (fun v5 _ => l.length - (intOf v5).toNat)
  case atStart => exact ⟨0, Nat.zero_le _, rfl, Below.refl _ _⟩
  case round =>
    obtain ⟨k, hk, rfl, hbel⟩ := hrel
    by_cases hlt : k < l.length
    · obtain ⟨e1, e2, h1, h2, c1, c2⟩ := H.out k hlt
      subst e1 e2
      rw [← hbel.cell (p := ⟨b, off + k, none⟩) h1] at c1
      rw [← hbel.cell (p := ⟨b2, off2 + k, none⟩) h2] at c2
      obtain ⟨x, hx⟩ : ∃ x, l.getD k 0 = x := ⟨_, rfl⟩
      rw [hx] at c1 c2
      clear hx H
      go_wp2
      go_quiet (fail)
      go_wp2
      go_roundw
      case rel => exact ⟨k + 1, by omega, by go_num, below_drewN hbel _⟩
      case measure => simp [intOf]; omega
    · go_wp2
      go_ret
      exact ⟨rfl, hbel⟩
end Go.Proofs.YtjaeaanpbdmfgaeDoor
