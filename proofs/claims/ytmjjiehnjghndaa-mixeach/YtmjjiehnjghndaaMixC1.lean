/-
  PROVED HERE: what lanelaw3.MixEach asks of odds.Edges, serial.Order and graph.Ring.
  Conditions: none.
-/
import Derived.Test.YtmjjiehnjghndaaMixEachWalk
import Derived.Test.YtmjjiehnjghndaaOddEdgesWalk
import Derived.Test.YtmjjiehnjghndaaSerOrder
import Derived.Test.YtmjjiehnjghndaaGraphRings
import Derived.Test.YtmjjiehnjghndaaPiecesPlain
import Derived.Test.YtmjjiehnjghndaaJustPlain
import Derived.Test.YtmjjiehnjghndaaMgae
namespace Go.Proofs.Ytmjjiehnjghndaa
open Go.RowKit

theorem mEdgC : MEdgC := fun l v w h hc => edges_ok l v w h hc
theorem mOrdC : MOrdC := by
  intro l v w h hc
  refine (ord_any l v w h hc).mono ?_
  rintro e w' ⟨⟨o, v', ho, rfl, -⟩ | ⟨hn, rfl⟩, hb⟩
  · exact ⟨v', by unfold ordEr; rw [if_pos (by rw [ho]; rfl)], hb⟩
  · exact ⟨_, by unfold ordEr; rw [if_neg (by rw [hn]; simp)], hb⟩
theorem mRingC : MRingC := by
  intro d v w h
  refine (ring_any _ v w h (edges_gchk d 36)).mono ?_
  rintro e w' ⟨hor, hb⟩
  rcases graph_either (edges_right d 36) with ⟨o, h1, -, h2⟩ | ⟨h1, r, h2, -⟩
  · have h3 : (serOrd d).isSome = true := by
      cases hs : serOrd d with
      | none => rw [serOrd_none.1 hs] at h1; cases h1
      | some x => rfl
    rcases hor with ⟨r, v', h4, -⟩ | ⟨-, rfl⟩
    · rw [h2] at h4; cases h4
    · exact ⟨_, by unfold ringEr; rw [if_pos h3], hb⟩
  · have h3 : ¬ (serOrd d).isSome = true := by rw [serOrd_none.2 h1]; simp
    rcases hor with ⟨r', v', -, rfl, -⟩ | ⟨h4, -⟩
    · exact ⟨v', by unfold ringEr; rw [if_neg h3], hb⟩
    · rw [h2] at h4; cases h4
end Go.Proofs.Ytmjjiehnjghndaa
