/-
  PROVED HERE: plain facts, with no word of the program: of deals that come one behind the other nothing goes wrong.
  Conditions: none.
-/
import Derived.Test.YtjcaekhkeobhpahDoorIllsAsk
import Derived.Test.YtjcaekhkeobhpahDoorPiecesPlain
namespace Go.Proofs.YtjcaekhkeobhpahDoor

theorem pieces_open {a b : Int} {ps : List Int} (ha : 1 ≤ a ∧ a ≤ 6) (hb : 1 ≤ b ∧ b ≤ 6) (hd : Deals1 ps) {i : Nat} (hi : i < (piecesL a b ps).length) (wh : Int) : openB (piecesL a b ps) i wh = false := by
  rw [Bool.eq_false_iff]
  intro h
  obtain ⟨m, hm, _, _, hne, he⟩ := openB_iff.1 h
  rw [pieces_len] at hi
  have hop := ((chk_iff _).1 (pieces_chk ha hb hd)).2.1
  have key : ∀ x, x < 3 * ps.length → (opAt (piecesL a b ps) x).1 = ps.getD (x / 3) 0 := fun x hx => by
    obtain ⟨h1, h2, h3⟩ := pieces_at a b ps (x / 3) (by omega)
    rcases (show x = 3 * (x / 3) ∨ x = 3 * (x / 3) + 1 ∨ x = 3 * (x / 3) + 2 by omega) with e | e | e
    · rw [← e] at h1; rw [h1]
    · rw [← e] at h2; rw [h2]
    · rw [← e] at h3; rw [h3]
  have h1 := key m (by omega)
  have h2 := key i hi
  have hlt : m / 3 < i / 3 := by
    rcases Nat.lt_or_ge (m / 3) (i / 3) with e | e
    · exact e
    · exact absurd (by rw [h1, h2, show m / 3 = i / 3 by omega]) hne
  obtain ⟨_, _, h3⟩ := pieces_at a b ps (m / 3) (by omega)
  unfold endBy at he
  rw [endOf_ended _ _ fun o ho => hop o (List.mem_of_mem_take ho), endedIn_false] at he
  refine he (opAt (piecesL a b ps) (3 * (m / 3) + 2)) ?_ ⟨by rw [h3, h1], by rw [h3]; rfl⟩
  rw [← opAt_take (n := i) (show 3 * (m / 3) + 2 < i by omega)]
  exact opAt_mem (by rw [List.length_take, pieces_len]; omega)
theorem pieces_ills {a b : Int} {ps : List Int} (ha : 1 ≤ a ∧ a ≤ 6) (hb : 1 ≤ b ∧ b ≤ 6) (hd : Deals1 ps) : illsU (piecesL a b ps) = (false, false, false, false) ∧ firstU (piecesL a b ps) = (0, 5) ∧ (chk (piecesL a b ps)).2 = 0 ∧ rigB (piecesL a b ps) = true := by
  have hc := pieces_chk ha hb hd
  have ho := fun i (hi : i < (piecesL a b ps).length) wh => pieces_open ha hb hd hi wh
  have hr : rigB (piecesL a b ps) = true := all_at.2 fun i hi => by unfold rigAt; rw [ho i hi, ho i hi]; simp
  have h1 : anyTo (illW (piecesL a b ps)) (piecesL a b ps).length = false := anyTo_not.2 fun i hi => by unfold illW; rw [ho i hi]; simp
  have h2 : anyTo (illR (piecesL a b ps)) (piecesL a b ps).length = false := anyTo_not.2 fun i hi => by unfold illR; rw [ho i hi]; simp
  have h3 : anyTo (illU (piecesL a b ps)) (piecesL a b ps).length = false := anyTo_not.2 fun i hi => by unfold illU; rw [ho i hi]; simp
  have h4 : lostI (piecesL a b ps) (piecesL a b ps).length = false := by
    rw [Bool.eq_false_iff]
    intro h
    rw [lost_unrep hc h] at h3
    cases h3
  have h5 : firstTo (piecesL a b ps) (piecesL a b ps).length = -1 := by
    rcases first_spec (piecesL a b ps) (piecesL a b ps).length with ⟨h, _⟩ | ⟨k, _, hk, hi, _⟩
    · exact h
    · have := all_at.1 hr k hk
      rw [ill_rig, hi] at this
      cases this
  refine ⟨?_, ?_, hc, hr⟩
  · unfold illsU illsR; rw [if_neg (by rw [hc]; decide), h1, h2, h3, h4]
  · unfold firstU illsR; rw [if_neg (by rw [hc]; decide), h5]; rfl
def two1 : List Op3 := [(1, 2, 1), (2, 2, 1)]
theorem two1_first : firstU two1 = (1, 0) := by decide
def lost4 : List Op3 := [(1, 1, 1), (2, 2, 1), (1, 2, 1), (1, 3, 0)]
theorem lost4_ills : illsU lost4 = (true, false, true, true) ∧ (chk lost4).2 = 0 := by decide
end Go.Proofs.YtjcaekhkeobhpahDoor
