/-
  PROVED HERE: lanelaw4.FacesPrefix returns true, whatever the list of ops and the place where it is cut; old memory stays as it was.
  Conditions: the slice is no longer than its capacity.
-/
import Derived.Test.YtlhkjllpgdhnjacFacesOf2
namespace Go.Proofs.Ytlhkjllpgdhnjac
open Go.RowKit

theorem two_ops_at (w : World) : OpsAt (w.alloc (.cells #[.int .i64 1, .int .i64 1, .int .i64 1, .int .i64 2, .int .i64 2, .int .i64 1] 24)) w.heap.size 0 [(1, 1, 1), (2, 2, 1)] := by
  intro i hi
  match i, hi with
  | 0, _ => simp
  | 1, _ => simp
theorem fact_faces : chk [(1, 1, 1), (2, 2, 1)] = (0, 0) ∧ recB [(1, 1, 1), (2, 2, 1)] = true ∧ cauB [(1, 1, 1), (2, 2, 1)] = true ∧ strB [(1, 1, 1), (2, 2, 1)] = true ∧ rigB [(1, 1, 1), (2, 2, 1)] = false := by decide
theorem fof_fact (w : World) (b : Nat) (hb : b = w.heap.size) :
    Calls Try.prog 7 #[.slice (some ⟨b, 0, none⟩) 2 2] (w.alloc (.cells #[.int .i64 1, .int .i64 1, .int .i64 1, .int .i64 2, .int .i64 2, .int .i64 1] 24)) fun e w' => e = .returned (.tuple #[.agg #[.bool true, .bool true, .bool true, .bool false], .nilIface]) ∧ Below w.heap.size w w' := by
  subst hb
  obtain ⟨f0, f1, f2, f3, f4⟩ := fact_faces
  have h1 := fof_ok [(1, 1, 1), (2, 2, 1)] (some ⟨w.heap.size, 0, none⟩) 2 _ ⟨some ⟨w.heap.size, 0, none⟩, w.heap.size, 0, 2, rfl, fun _ => rfl, fun h => (by cases h), .inl (by simp), two_ops_at w⟩ (by decide) (by rw [f0])
  rw [f1, f2, f3, f4] at h1
  refine h1.mono ?_
  rintro e w' ⟨he, hb'⟩
  exact ⟨he, ((Below.refl _ w).alloc (Nat.le_refl _) _).trans (hb'.mono (by simp))⟩
theorem isOps_cut {W : World} {ad : Option Addr} {cap k : Nat} {l : List Op3} (h : IsOps W (.slice ad l.length cap) l) (hk : k ≤ l.length) : IsOps W (.slice ad k cap) (l.take k) := by
  obtain ⟨ad', b, off, cap', he, ha, hn, hbB, hops⟩ := h
  simp only [Value.slice.injEq, true_and] at he
  obtain ⟨rfl, rfl⟩ := he
  have hlk : (l.take k).length = k := by rw [List.length_take, Nat.min_eq_left hk]
  refine ⟨ad, b, off, cap, by rw [hlk], fun h => ha (by rw [hlk] at h; omega), fun h => ⟨by rw [hlk]; have := (hn h).1; omega, (hn h).2⟩, ?_, fun i hi => ?_⟩
  · rcases hbB with h | h
    · exact .inl h
    · subst h; exact .inr (by simp)
  · have hik : i < k := by rw [hlk] at hi; exact hi
    have := hops i (by omega)
    rw [show (l.take k).getD i (0, 0, 0) = l.getD i (0, 0, 0) by simp [List.getD, hik]]
    exact this
set_option maxHeartbeats 8000000 in
set_option maxRecDepth 100000 in
theorem prefix_walk (l : List Op3) (ad : Option Addr) (cap : Nat) (cut : Int) (w : World) (h : IsOps w (.slice ad l.length cap) l) (hcap : l.length ≤ cap) :
    Calls Try.prog 4 #[.slice ad l.length cap, .int .i64 cut] w fun e w' => e = .returned (.bool true) ∧ Below w.heap.size w w' := by
  have HI : Hid (∀ W, Below w.heap.size w W → IsOps W (.slice ad l.length cap) l) := fun W hW => h.below hW (Nat.le_refl _)
  clear h
  by_cases hc : (chk l).2 = 0
  · obtain ⟨n, hn⟩ : ∃ n, l.length = n := ⟨_, rfl⟩
    have hn40 : n ≤ 40 := by rw [← hn]; exact chk_len hc
    obtain ⟨r1, hr1⟩ : ∃ x, recB l = x := ⟨_, rfl⟩
    obtain ⟨c1, hc1⟩ : ∃ x, cauB l = x := ⟨_, rfl⟩
    obtain ⟨s1, hs1⟩ : ∃ x, strB l = x := ⟨_, rfl⟩
    obtain ⟨g1, hg1⟩ : ∃ x, rigB l = x := ⟨_, rfl⟩
    have HOF : Hid (∀ W, Below w.heap.size w W → Calls Try.prog 7 #[.slice ad n cap] W fun e w' => e = .returned (.tuple #[.agg #[.bool r1, .bool c1, .bool s1, .bool g1], .nilIface]) ∧ Below W.heap.size W w') := fun W hW => by
      have h1 := fof_ok l ad cap W (HI.out W hW) hcap hc
      rw [hr1, hc1, hs1, hg1, hn] at h1
      exact h1
    have HCUT : Hid (∀ k, k ≤ n → ∃ r2 c2 s2 g2, (c1 = true → c2 = true) ∧ (s1 = true → s2 = true) ∧ (g1 = true → g2 = true) ∧ ∀ W, Below w.heap.size w W → Calls Try.prog 7 #[.slice ad k cap] W fun e w' => e = .returned (.tuple #[.agg #[.bool r2, .bool c2, .bool s2, .bool g2], .nilIface]) ∧ Below W.heap.size W w') := fun k hk => by
      refine ⟨recB (l.take k), cauB (l.take k), strB (l.take k), rigB (l.take k), fun e => cau_take k (hc1.trans e), fun e => str_take k (hs1.trans e), fun e => rig_take k (hg1.trans e), fun W hW => ?_⟩
      have hlk : (l.take k).length = k := by rw [List.length_take, hn, Nat.min_eq_left hk]
      have h2 := isOps_cut (HI.out W hW) (show k ≤ l.length by omega)
      have h1 := fof_ok (l.take k) ad cap W (by rw [hlk]; exact h2) (by rw [hlk]; omega) (chk_take hc k)
      rw [hlk] at h1
      exact h1
    rw [hn] at hcap ⊢
    clear hn hr1 hc1 hs1 hg1 hc HI
    go_enter Try.func4, Try.ntmps4
    go_wp2_with fail
    refine (fof_fact _ _ (by simp)).mono ?_
    rintro e w1 ⟨rfl, hb1⟩
    have HB1 : Hid (Below w.heap.size w w1) := hb1
    clear hb1
    go_wp2_with fail
    refine (HOF.out _ (HB1.out.alloc HB1.out.size _)).mono ?_
    rintro e w2 ⟨rfl, hb2⟩
    have HB2 : Hid (Below w.heap.size w w2) := (HB1.out.alloc HB1.out.size _).trans (hb2.mono (by have := HB1.out.size; simp; omega))
    clear hb2
    by_cases h0 : cut < 0
    · go_wp2_with fail
      go_ret
      exact ⟨rfl, HB2.out.alloc HB2.out.size _⟩
    · by_cases hm : (n : Int) < cut
      · go_wp2_with fail
        go_ret
        exact ⟨rfl, HB2.out.alloc HB2.out.size _⟩
      · obtain ⟨k, rfl⟩ : ∃ k : Nat, cut = k := ⟨cut.toNat, by omega⟩
        obtain ⟨r2, c2, s2, g2, i1, i2, i3, hcall⟩ := HCUT.out k (by omega)
        have HCALL : Hid (∀ W, Below w.heap.size w W → Calls Try.prog 7 #[.slice ad k cap] W fun e w' => e = .returned (.tuple #[.agg #[.bool r2, .bool c2, .bool s2, .bool g2], .nilIface]) ∧ Below W.heap.size W w') := hcall
        have HIMP : Hid ((c1 = true → c2 = true) ∧ (s1 = true → s2 = true) ∧ (g1 = true → g2 = true)) := ⟨i1, i2, i3⟩
        have hkn : (k : Int) ≤ (n : Int) := by omega
        have hkc : (k : Int) ≤ (cap : Int) := by omega
        clear i1 i2 i3 hcall HCUT HOF
        go_wp2_with fail
        refine (HCALL.out _ (HB2.out.alloc HB2.out.size _)).mono ?_
        rintro e w3 ⟨rfl, hb3⟩
        have f1 : w3.cell? ⟨w2.heap.size, 1, none⟩ = some (.bool c1) := (hb3.cell (p := ⟨w2.heap.size, 1, none⟩) (by simp)).trans (by simp)
        have f2 : w3.cell? ⟨w2.heap.size, 2, none⟩ = some (.bool s1) := (hb3.cell (p := ⟨w2.heap.size, 2, none⟩) (by simp)).trans (by simp)
        have f3 : w3.cell? ⟨w2.heap.size, 3, none⟩ = some (.bool g1) := (hb3.cell (p := ⟨w2.heap.size, 3, none⟩) (by simp)).trans (by simp)
        have hsz : w2.heap.size < w3.heap.size := World.block_lt_of_cell? w3 _ f1
        have HB3 : Hid (Below w.heap.size w w3) := (HB2.out.alloc HB2.out.size _).trans (hb3.mono (by have := HB2.out.size; simp; omega))
        obtain ⟨F, hF⟩ : ∃ F, w2.heap.size = F := ⟨_, rfl⟩
        rw [hF] at f1 f2 f3 hsz ⊢
        clear hb3 hF HB1
        obtain ⟨j1, j2, j3⟩ := HIMP.out
        cases c1 <;> cases s1 <;> cases g1 <;> (first | (obtain rfl := j1 rfl) | skip) <;> (first | (obtain rfl := j2 rfl) | skip) <;> (first | (obtain rfl := j3 rfl) | skip)
        all_goals
          clear j1 j2 j3 HIMP
          go_wp2_with fail
          go_ret
          exact ⟨rfl, HB3.out.alloc HB3.out.size _⟩
  · have HOF : Hid (∀ W, Below w.heap.size w W → Calls Try.prog 7 #[.slice ad l.length cap] W fun e w' => ∃ c, e = .returned (.tuple #[.agg #[.bool false, .bool false, .bool false, .bool false], .iface 70 (.int .i64 c)]) ∧ Below W.heap.size W w') := fun W hW => (fof_bad l _ W (HI.out W hW) hc).mono fun e w' ⟨h1, h2⟩ => ⟨_, h1, h2⟩
    clear hc HI
    go_enter Try.func4, Try.ntmps4
    go_wp2_with fail
    refine (fof_fact _ _ (by simp)).mono ?_
    rintro e w1 ⟨rfl, hb1⟩
    have HB1 : Hid (Below w.heap.size w w1) := hb1
    clear hb1
    go_wp2_with fail
    refine (HOF.out _ (HB1.out.alloc HB1.out.size _)).mono ?_
    rintro e w2 ⟨c, rfl, hb2⟩
    have HB2 : Hid (Below w.heap.size w w2) := (HB1.out.alloc HB1.out.size _).trans (hb2.mono (by have := HB1.out.size; simp; omega))
    clear hb2
    go_wp2_with fail
    go_ret
    exact ⟨rfl, HB2.out.alloc HB2.out.size _⟩
end Go.Proofs.Ytlhkjllpgdhnjac
