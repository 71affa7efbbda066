/-
  PROVED HERE: package graph's Order keeps GOrderC.
  Conditions: none.
-/
import Derived.Test.YtmgadiopjofegaiTreeAsk
import Derived.Test.YtmgadiopjofegaiGraphOrder
namespace Go.Proofs.Ytmgadiopjofegai
open Go.RowKit

theorem gOrderC : GOrderC := by
  intro l v w hI hc o ho
  refine (order_any l v w hI hc).mono ?_
  rintro e w' ⟨⟨o', v', ho', rfl, h1, h2⟩ | ⟨hn, _⟩, hb⟩
  · rw [ho] at ho'
    obtain rfl := Option.some.inj ho'
    exact ⟨v', rfl, h1, h2, hb⟩
  · rw [ho] at hn; cases hn
end Go.Proofs.Ytmgadiopjofegai
