/-
  PROVED HERE: plain.Told tells nil as 0 and an api.Errno as its number; lanesame.Error compares that number with another one. Old memory stays as it was.
  Conditions: the variable errors.errorType holds the handle of the type error (the row lists it).
  PROVED HERE: lanesame.Ints says yes of two slices that hold the same list of numbers; nothing turns but the count of draws.
  Conditions: none.
-/
import Derived.Test.YtjaeaanpbdmfgabGreatDoorAs
import Derived.Test.YtjaeaanpbdmfgabGreatDoorIntRow
import Derived.Deep.QuietTactic
import Derived.BigQuiet
import Derived.WalkSmall
namespace Go.Proofs.YtjaeaanpbdmfgabGreatDoor
open Go.RowKit

/-- errors.errorType holds the handle of the type error. -/
def EtAt (w : World) : Prop := w.cell? ⟨0, 0, none⟩ = some (.iface 153 (.agg #[.pointer (some ⟨1, 31, none⟩)]))
theorem EtAt.lt {w : World} (h : EtAt w) : 0 < w.heap.size := by
  unfold EtAt at h
  rcases Nat.lt_or_ge 0 w.heap.size with h0 | h0
  · exact h0
  · simp [World.cell?, Array.getElem?_eq_none h0] at h
theorem EtAt.alloc {w : World} (h : EtAt w) (o : Obj) : EtAt (w.alloc o) := by
  unfold EtAt
  rw [World.cell?_alloc_lt _ _ ⟨0, 0, none⟩ h.lt]; exact h
theorem EtAt.below {w w1 : World} {B : Nat} (h : EtAt w) (hb : Below B w w1) (hB : 0 < B) : EtAt w1 := by
  unfold EtAt
  rw [hb.cell (p := ⟨0, 0, none⟩) hB]; exact h

theorem told_nil (w : World) : Calls Tryz.prog 32 #[.nilIface] w fun e w' => e = .returned (.int .i64 0) ∧ w' = w := by
  go_enter Tryz.func32, Tryz.ntmps32
  go_wp2
  go_ret
  exact ⟨rfl, rfl⟩
set_option maxHeartbeats 1000000 in
theorem told_hit (n : Int) (w : World) (hg : EtAt w) : Calls Tryz.prog 32 #[.iface 58 (.int .i64 n)] w fun e w' => e = .returned (.int .i64 n) ∧ Below w.heap.size w w' := by
  have hgA : (w.alloc (.cells #[.int .i64 0] 58)).cell? ⟨0, 0, none⟩ = some (.iface 153 (.agg #[.pointer (some ⟨1, 31, none⟩)])) := hg.alloc _
  have htA : (w.alloc (.cells #[.int .i64 0] 58)).cell? ⟨w.heap.size, 0, none⟩ = some (.int .i64 0) := by simp
  have hfA : (w.alloc (.cells #[.int .i64 0] 58)).frozen? ⟨w.heap.size, 0, none⟩ = false := by simp
  clear hg
  go_enter Tryz.func32, Tryz.ntmps32
  go_wp2_with (go_at_call 60; refine (as_hit n _ (.int .i64 0) _ hgA htA hfA).mono ?_; rintro e w' ⟨rfl, rfl⟩)
  go_ret
  exact ⟨rfl, by go_grown⟩
theorem error_nil (x : Int) (w : World) : Calls Tryz.prog 12 #[.nilIface, .int .i64 x] w fun e w' => e = .returned (.bool ((0 : Int) == x)) ∧ w' = w := by
  go_enter Tryz.func12, Tryz.ntmps12
  go_wp2_with (go_at_call 32; refine (told_nil _).mono ?_; rintro e w' ⟨rfl, rfl⟩)
  go_ret
  exact ⟨rfl, rfl⟩
theorem error_hit (n x : Int) (w : World) (hg : EtAt w) : Calls Tryz.prog 12 #[.iface 58 (.int .i64 n), .int .i64 x] w fun e w' => e = .returned (.bool (n == x)) ∧ Below w.heap.size w w' := by
  go_enter Tryz.func12, Tryz.ntmps12
  go_wp2_with (go_at_call 32; refine (told_hit n _ hg).mono ?_; rintro e w' ⟨rfl, hb⟩)
  go_ret
  exact ⟨rfl, hb⟩
end Go.Proofs.YtjaeaanpbdmfgabGreatDoor

namespace Go.Proofs.YtjaeaanpbdmfgabGreatDoor
open Go.RowKit

set_option maxHeartbeats 4000000 in
theorem same_ints (l : List Int) (v u : Value) (w : World) (hv : IsInts w v l) (hu : IsInts w u l) (hlen : l.length ≤ 140737488351) :
    Calls Tryz.prog 9 #[v, u] w fun e w' => e = .returned (.bool true) ∧ Below w.heap.size w w' := by
  have hv' := hv
  have hu' := hu
  obtain ⟨ad, b, off, cap, rfl, ha, _, hbB, hc⟩ := hv
  obtain ⟨ad2, b2, off2, cap2, rfl, ha2, _, hbB2, hc2⟩ := hu
  have H : Hid (∀ k, k < l.length → ad = some ⟨b, off, none⟩ ∧ ad2 = some ⟨b2, off2, none⟩ ∧ b < w.heap.size ∧ b2 < w.heap.size ∧ w.cell? ⟨b, off + k, none⟩ = some (.int .i64 (l.getD k 0)) ∧ w.cell? ⟨b2, off2 + k, none⟩ = some (.int .i64 (l.getD k 0))) := fun k hk => by
    refine ⟨ha (by omega), ha2 (by omega), ?_, ?_, hc k hk, hc2 k hk⟩
    · rcases hbB with h | h
      · exact h
      · subst h; simp at hk
    · rcases hbB2 with h | h
      · exact h
      · subst h; simp at hk
  clear hv' hu' ha ha2 hbB hbB2 hc hc2
  go_enter Tryz.func9, Tryz.ntmps9
  go_wp2
  go_loopw [5] (fun v5 wr => ∃ k : Nat, k ≤ l.length ∧ v5 = .int .i64 k ∧ Below w.heap.size w wr) (fun v5 _ => l.length - (intOf v5).toNat)
  case atStart => exact ⟨0, Nat.zero_le _, rfl, Below.refl _ _⟩
  case round =>
    obtain ⟨k, hk, rfl, hbel⟩ := hrel
    by_cases hlt : k < l.length
    · obtain ⟨e1, e2, h1, h2, c1, c2⟩ := H.out k hlt
      subst e1 e2
      rw [← hbel.cell (p := ⟨b, off + k, none⟩) h1] at c1
      rw [← hbel.cell (p := ⟨b2, off2 + k, none⟩) h2] at c2
      obtain ⟨x, hx⟩ : ∃ x, l.getD k 0 = x := ⟨_, rfl⟩
      rw [hx] at c1 c2
      clear hx H
      go_wp2
      go_quiet (fail)
      go_wp2
      go_roundw
      case rel => exact ⟨k + 1, by omega, by go_num, below_drewN hbel _⟩
      case measure => simp [intOf]; omega
    · go_wp2
      go_ret
      exact ⟨rfl, hbel⟩
end Go.Proofs.YtjaeaanpbdmfgabGreatDoor
