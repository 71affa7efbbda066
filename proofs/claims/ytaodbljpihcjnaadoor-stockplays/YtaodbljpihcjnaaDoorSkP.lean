/-
  PROVED HERE: package stock keeps what it is asked: its New, Ask, End, Now and Range answer as chapter 17, as functions, has it; a Stock lies in two blocks of its own, and nothing else turns.
  Conditions: none.
-/
import Derived.Test.YtaodbljpihcjnaaDoorSkAsk2
import Derived.Test.YtaodbljpihcjnaaDoorSkEnd
namespace Go.Proofs.YtaodbljpihcjnaaDoor
open Go.RowKit

theorem stockW : StockW Rep where
  lt := fun _ _ _ _ h => rep_lt h
  later := fun _ _ _ _ _ _ h ht hG => rep_later h ht hG
  new := fun n w => new_sk n w
  ask := fun w p s F t d h hok => by
    obtain ⟨M, rfl, hs⟩ := h
    refine (ask_sk hs hok t d).mono ?_
    rintro e w' ⟨he, h1, h2⟩
    exact ⟨he, _, ⟨M, rfl, h1⟩, h2, fun k hk => .inl hk⟩
  end_ := fun w p s F t c h hok => by
    obtain ⟨M, rfl, hs⟩ := h
    refine (end_sk hs hok t c).mono ?_
    rintro e w' ⟨he, h1, h2⟩
    exact ⟨he, _, ⟨M, rfl, h1⟩, h2, fun k hk => .inl hk⟩
  now := fun w p s F h _ => by
    obtain ⟨M, _, hs⟩ := h
    exact now_sk hs
  range := fun w p s F h hok => by
    obtain ⟨M, _, hs⟩ := h
    exact range_sk hs hok
end Go.Proofs.YtaodbljpihcjnaaDoor
