/-
  PROVED HERE: package log keeps what it is asked: its methods answer as chapter 18, as relations on how a Log stands, has it; a Log lies in a block of its own and a row of bytes of its own, and nothing else turns.
  Conditions: none.
-/
import Derived.Test.YtggieffpehbfaaaDoorLgDo
namespace Go.Proofs.YtggieffpehbfaaaDoor
open Go.RowKit

theorem logW : LogW LgRep where
  lt := fun _ _ _ _ h => lgRep_lt h
  later := fun _ _ _ _ _ _ h ht hG => lgRep_later h ht hG
  new := fun w => new_lg w
  do_ := fun w p s F o h hok => by
    obtain ⟨bv, st, rest, rfl, hs⟩ := h
    have h1 : Calls Tryd.prog 10 #[ptL p, opL o] w (DidDo w p bv s o) := by
      cases hst : s.stop with
      | true => exact do_halted hs o hst
      | false => exact do_lg hs hok o hst
    refine h1.mono ?_
    rintro e w' ⟨r, s', bv', st', rest', h2, h3, h4, h5, h6⟩
    exact ⟨r, s', h2, h3, _, ⟨bv', st', rest', rfl, h4⟩, h5, h6⟩
  sync := fun w p s F h _ => by
    obtain ⟨bv, st, rest, rfl, hs⟩ := h
    refine (sync_lg hs).mono ?_
    rintro e w' ⟨he, st', h1, h2⟩
    exact ⟨he, _, ⟨bv, st', rest, rfl, h1⟩, h2.mono fun _ _ e => Or.inl e, fun k hk => .inl hk⟩
  fail := fun w p s F n h _ => by
    obtain ⟨bv, st, rest, rfl, hs⟩ := h
    refine (fail_lg hs n).mono ?_
    rintro e w' ⟨he, h1, h2⟩
    exact ⟨he, _, ⟨bv, n, rest, rfl, h1⟩, h2.mono fun _ _ e => Or.inl e, fun k hk => .inl hk⟩
  crash := fun w p s F n h hok => by
    obtain ⟨bv, st, rest, rfl, hs⟩ := h
    refine (crash_lg hs hok n).mono ?_
    rintro e w' ⟨he, bv', h1, h2, h3⟩
    refine ⟨he, _, ⟨bv', -1, [], rfl, h1⟩, h2.mono fun _ _ e => Or.inl e, fun k hk => .inl ?_⟩
    rcases hk with rfl | hk
    · exact .inl rfl
    · exact .inr (h3 k hk)
  all := fun w p s F h hok => by
    obtain ⟨bv, st, rest, rfl, hs⟩ := h
    refine (all_lg hs hok).mono ?_
    rintro e w' ⟨v', he, ho, hb⟩
    exact ⟨v', he, isOps_row ho rfl, hb⟩
  values := fun w p s F h hok => by
    obtain ⟨bv, st, rest, rfl, hs⟩ := h
    exact values_lg hs hok
  bytes := fun w p s F h _ => by
    obtain ⟨bv, st, rest, rfl, hs⟩ := h
    exact bytes_lg hs
  safe := fun w p s F h _ => by
    obtain ⟨bv, st, rest, rfl, hs⟩ := h
    exact safe_lg hs
end Go.Proofs.YtggieffpehbfaaaDoor
