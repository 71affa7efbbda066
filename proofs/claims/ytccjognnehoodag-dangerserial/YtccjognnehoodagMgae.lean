/-
  PROVED HERE: laneref1.End answers as the plain function endOf says of the first ops of a list; nothing turns.
  Conditions: none.
  PROVED HERE: how a list of numbers lies in memory, as a slice value that came in or that the program made itself; and what is owned stays owned where nothing that was there turns.
  Conditions: none.
-/
import Derived.Test.YtccjognnehoodagMgab
import Derived.Test.YtccjognnehoodagProg
import Derived.WalkKit
import Derived.WalkSpells
import Derived.Handy
namespace Go.Proofs.Ytccjognnehoodag
open Go.RowKit

theorem ret_int {x y : Int} (h : x = y) : Ending.returned (.int .i64 x) = .returned (.int .i64 y) := by rw [h]
/-- The tail of a search: what is left behind k ops of which none is it. -/
theorem endOf_drop {l : List Op3} {k : Nat} {o : Op3} (hd : l.drop k = o :: l.drop (k + 1)) (t : Int) : endOf (l.drop k) t = if o.1 = t ∧ 3 ≤ o.2.1 then o.2.1 else endOf (l.drop (k + 1)) t := by
  rw [hd]; rfl

set_option maxHeartbeats 2000000 in
theorem end_any (l : List Op3) (ad : Option Addr) (b off cap : Nat) (t : Int) (w : World) (hlen : l.length ≤ 140737488351232) (ha : 0 < l.length → ad = some ⟨b, off, none⟩) (hops : OpsAt w b off l) :
    Calls Try.prog 10 #[.slice ad l.length cap, .int .i64 t, .int .i64 l.length] w fun e w' => e = .returned (.int .i64 (endOf l t)) ∧ w' = w := by
  go_enter Try.func10, Try.ntmps10
  go_wp2
  go_loop [7] (fun v7 => ∃ k : Nat, k ≤ l.length ∧ v7 = .int .i64 k ∧ endOf (l.drop k) t = endOf l t) (fun v7 => l.length - (intOf v7).toNat)
  case atStart => exact ⟨0, Nat.zero_le _, rfl, rfl⟩
  case round =>
    obtain ⟨k, hk, rfl, hck⟩ := hrel
    have HK : Hid (endOf (l.drop k) t = endOf l t) := hck
    clear hck
    by_cases hlt : k < l.length
    · obtain rfl := ha (by omega)
      obtain ⟨c0, c1, c2⟩ := hops k hlt
      obtain ⟨⟨x, a, i⟩, ho⟩ : ∃ o : Op3, l.getD k (0, 0, 0) = o := ⟨_, rfl⟩
      rw [ho] at c0 c1 c2
      have HD : Hid (l.drop k = (x, a, i) :: l.drop (k + 1)) := by
        show l.drop k = (x, a, i) :: l.drop (k + 1)
        rw [← ho]; simp [List.getD, List.getElem?_eq_getElem hlt]
      clear ho hops ha c2
      simp only at c0 c1
      by_cases hx : x = t
      · subst hx
        by_cases h3 : 3 ≤ a
        · go_wp2
          go_ret
          exact ⟨ret_int (by rw [← HK.out, endOf_drop HD.out]; simp [h3]), rfl⟩
        · go_wp2
          go_round
          case rel => exact ⟨k + 1, by omega, by go_num, by rw [← HK.out, endOf_drop HD.out, if_neg (by simp; omega)]⟩
          case measure => simp [intOf]; omega
      · have hx' : (x == t) = false := by simpa using hx
        go_wp2
        go_round
        case rel => exact ⟨k + 1, by omega, by go_num, by rw [← HK.out, endOf_drop HD.out, if_neg (by simp [hx])]⟩
        case measure => simp [intOf]; omega
    · go_wp2
      go_ret
      exact ⟨ret_int (by rw [← HK.out, List.drop_of_length_le (by omega)]; rfl), rfl⟩
end Go.Proofs.Ytccjognnehoodag

namespace Go.Proofs.Ytccjognnehoodag
open Go.RowKit

/-- A slice value that holds a list of numbers. -/
def IsInts (w : World) (v : Value) (l : List Int) : Prop :=
  ∃ (ad : Option Addr) (b off cap : Nat), v = .slice ad l.length cap ∧ (0 < l.length → ad = some ⟨b, off, none⟩) ∧ (ad = none → l.length = 0 ∧ cap = 0) ∧ (b < w.heap.size ∨ l = []) ∧ ∀ i, i < l.length → w.cell? ⟨b, off + i, none⟩ = some (.int .i64 (l.getD i 0))
theorem IsInts.below {w w1 : World} {B : Nat} {v : Value} {l : List Int} (h : IsInts w v l) (hb : Below B w w1) (hB : w.heap.size ≤ B) : IsInts w1 v l := by
  obtain ⟨ad, b, off, cap, hv, ha, hn, hbB, hc⟩ := h
  have hs := hb.size
  refine ⟨ad, b, off, cap, hv, ha, hn, ?_, fun i hi => ?_⟩
  · rcases hbB with h | h
    · exact .inl (by omega)
    · exact .inr h
  · rcases hbB with h | h
    · rw [hb.cell (p := ⟨b, off + i, none⟩) (by simp; omega)]; exact hc i hi
    · subst h; simp at hi
theorem isInts_nil (w : World) : IsInts w (.slice none 0 0) [] := ⟨none, 0, 0, 0, rfl, fun h => absurd h (by simp), fun _ => ⟨rfl, rfl⟩, .inr rfl, fun i hi => by simp at hi⟩
theorem isInts_own {w : World} {base e n : Nat} {v : Value} {l : List Int} (h : w.ownsRow base e 1 v n (l.map (Value.int .i64))) (hl : l.length = n) : IsInts w v l := by
  have h' := h
  obtain ⟨_, ⟨hv, hd⟩ | ⟨g, cap, cur, hv, hb, hg, hn, hm, hsz, htk⟩⟩ := h'
  · have : l = [] := List.length_eq_zero_iff.1 (by omega)
    subst this
    rw [hv]
    exact isInts_nil w
  · refine ⟨some ⟨g, 0, none⟩, g, 0, cap, by rw [hl]; exact hv, fun _ => rfl, fun h => (by simp at h), .inl (h.lt g (by rw [hv]; rfl)).2, fun i hi => ?_⟩
    have := h.cells (g := g) (by rw [hv]; rfl) i (.int .i64 (l.getD i 0)) (by simp [List.getD, hi])
    rw [Addr.add_lit] at this
    exact this
/-- What is owned stays owned where nothing that was there turns. -/
theorem own_below {w w1 : World} {base e size n B : Nat} {v : Value} {xs : List Value} (h : w.ownsRow base e size v n xs) (hb : Below B w w1) (hB : w.heap.size ≤ B) : w1.ownsRow base e size v n xs := by
  have h' := h
  obtain ⟨hl, hd | ⟨g, cap, cur, hv, hbg, hg, hn, hm, hsz, htk⟩⟩ := h
  · exact ⟨hl, .inl hd⟩
  · refine ⟨hl, .inr ⟨g, cap, cur, hv, hbg, ?_, hn, hm, hsz, htk⟩⟩
    have hlt : g < w.heap.size := (h'.lt g (by rw [hv]; rfl)).2
    rw [hb.block g (by omega)]; exact hg
theorem infoInt : (Try.prog.info? 3).map (fun i => (i.zero, i.size, i.bytes)) = some (some (.int .i64 0), 1, 8) := by kernel_rfl
end Go.Proofs.Ytccjognnehoodag
