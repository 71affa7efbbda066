/-
  PROVED HERE: history.Parse tells ErrSyntax of a text that is none, Check's error of one whose ops are wrong, and else its ops; old memory stays as it was. lanesame.Ops compares two lists of ops.
  Conditions: none.
-/
import Derived.Test.YtjaeaanpbdmfgaaDoorReadOps
namespace Go.Proofs.YtjaeaanpbdmfgaaDoor
open Go.RowKit Go.PlainAid

set_option maxHeartbeats 2000000 in
theorem parse_formless (l : List UInt8) (w : World) (hs : l.length ≤ 9223372036854775807) (hp : parseT l = none) :
    Calls Tryd.prog 23 #[.string ⟨l.toArray⟩] w fun e w' => e = .returned (.tuple #[.slice none 0 0, .iface 67 (.int .i64 2)]) ∧ Below w.heap.size w w' := by
  have HP : Hid (parseT l = none) := hp
  clear hp
  go_enter Tryd.func23, Tryd.ntmps23
  go_wp2_with (go_at_call 47; refine (readOps_any l _ hs).mono ?_; rintro e w1 ⟨hret, hb1⟩; rw [HP.out] at hret; obtain rfl : e = .returned (.tuple #[.slice none 0 0, .bool false]) := hret)
  go_ret2
  exact ⟨rfl, hb1⟩
set_option maxHeartbeats 2000000 in
theorem parse_bad (l : List UInt8) (ds : List Op3) (w : World) (hs : l.length ≤ 9223372036854775807) (hp : parseT l = some ds) (hc : (chk (ds.take 41)).2 ≠ 0) :
    Calls Tryd.prog 23 #[.string ⟨l.toArray⟩] w fun e w' => e = .returned (.tuple #[.slice none 0 0, .iface 67 (.int .i64 (chk (ds.take 41)).2)]) ∧ Below w.heap.size w w' := by
  have HP : Hid (parseT l = some ds) := hp
  have HC : Hid ((chk (ds.take 41)).2 ≠ 0) := hc
  clear hp hc
  go_enter Tryd.func23, Tryd.ntmps23
  go_wp2_with (first | (go_at_call 47; refine (readOps_any l _ hs).mono ?_; rintro e w1 ⟨hret, hb1⟩; rw [HP.out] at hret; obtain ⟨v, rfl, hI⟩ : ∃ v, e = .returned (.tuple #[v, .bool true]) ∧ IsOps w1 v (ds.take 41) := hret) | (go_at_call 9; refine (check_bad (ds.take 41) v _ hI HC.out).mono ?_; rintro e w2 ⟨rfl, hb2⟩))
  go_ret2
  exact ⟨rfl, hb1.trans (hb2.mono hb1.size)⟩
theorem take_all {ds : List Op3} (hc : (chk (ds.take 41)).2 = 0) : ds.take 41 = ds := by
  have := chk_len hc
  rw [List.length_take] at this
  exact List.take_of_length_le (by omega)
set_option maxHeartbeats 2000000 in
theorem parse_ok (l : List UInt8) (ds : List Op3) (w : World) (hs : l.length ≤ 9223372036854775807) (hp : parseT l = some ds) (hc : (chk (ds.take 41)).2 = 0) :
    Calls Tryd.prog 23 #[.string ⟨l.toArray⟩] w fun e w' => ∃ v, e = .returned (.tuple #[v, .nilIface]) ∧ IsOps w' v ds ∧ Below w.heap.size w w' := by
  have ht := take_all hc
  have HP : Hid (parseT l = some ds) := hp
  rw [ht] at hc
  have HC : Hid ((chk ds).2 = 0) := hc
  have HT : Hid (ds.take 41 = ds) := ht
  clear hp hc ht
  go_enter Tryd.func23, Tryd.ntmps23
  go_wp2_with (first | (go_at_call 47; refine (readOps_any l _ hs).mono ?_; rintro e w1 ⟨hret, hb1⟩; rw [HP.out] at hret; obtain ⟨v, rfl, hI⟩ : ∃ v, e = .returned (.tuple #[v, .bool true]) ∧ IsOps w1 v (ds.take 41) := hret; rw [HT.out] at hI) | (go_at_call 9; refine (check_ok ds v _ hI HC.out).mono ?_; rintro e w2 ⟨rfl, hb2⟩))
  go_ret2
  exact ⟨v, rfl, hI.below hb2 (Nat.le_refl _), hb1.trans (hb2.mono hb1.size)⟩
end Go.Proofs.YtjaeaanpbdmfgaaDoor
