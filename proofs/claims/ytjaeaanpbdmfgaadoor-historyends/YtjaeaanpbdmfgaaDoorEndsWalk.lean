/-
  PROVED HERE: lanelaw4.HistoryEnds returns true, whatever the list of ops and the op; old memory stays as it was.
  Conditions: errors.errorType holds the handle of the type error (the row lists it).
-/
import Derived.Test.YtjaeaanpbdmfgaaDoorEnd
import Derived.Test.YtjaeaanpbdmfgaaDoorOps
import Derived.Test.YtjaeaanpbdmfgaaDoorTold
import Derived.Laws.AppendOwnNone
namespace Go.Proofs.YtjaeaanpbdmfgaaDoor
open Go.RowKit

theorem fact_chk : chk [(1, 4, 0), (1, 1, 1)] = (1, 6) := by decide
theorem fact_at (w : World) : OpsAt (w.alloc (.cells #[.int .i64 1, .int .i64 4, .int .i64 0, .int .i64 1, .int .i64 1, .int .i64 1] 50)) w.heap.size 0 [(1, 4, 0), (1, 1, 1)] := by
  intro i hi
  match i, hi with
  | 0, _ => simp
  | 1, _ => simp
theorem check_fact (w : World) (b : Nat) (hb : b = w.heap.size) :
    Calls Tryd.prog 9 #[.slice (some ⟨b, 0, none⟩) 2 2] (w.alloc (.cells #[.int .i64 1, .int .i64 4, .int .i64 0, .int .i64 1, .int .i64 1, .int .i64 1] 50)) fun e w' => e = .returned (.tuple #[.int .i64 1, .iface 67 (.int .i64 6)]) ∧ Below (w.heap.size + 1) (w.alloc (.cells #[.int .i64 1, .int .i64 4, .int .i64 0, .int .i64 1, .int .i64 1, .int .i64 1] 50)) w' := by
  subst hb
  refine (check_any [(1, 4, 0), (1, 1, 1)] (some ⟨w.heap.size, 0, none⟩) w.heap.size 0 2 _ (fun _ => rfl) (.inl (by simp)) (fact_at w)).mono ?_
  rintro e w' ⟨he, hb'⟩
  rw [fact_chk] at he
  rw [World.size_alloc] at hb'
  exact ⟨he, hb'⟩

theorem cell_past {w4 w5 : World} {N e size n : Nat} {v9 : Value} {xs : List Value} {o : Obj} (hown : w4.ownsRow (N + 1) e size v9 n xs) (hgr : (w4.alloc o).grownBy w5 v9.ownBlock) {j : Nat} {u : Value} (hc : w4.cell? ⟨N, j, none⟩ = some u) : w5.cell? ⟨N, j, none⟩ = some u := by
  refine hgr.cell ?_ ?_
  · rw [World.cell?_alloc_lt _ _ ⟨N, j, none⟩ (World.block_lt_of_cell? w4 _ hc)]; exact hc
  · intro hk
    have := (hown.lt N hk.symm).1
    omega
theorem own_ops {w : World} {base e n : Nat} {v : Value} {l : List Op3} (h : w.ownsRow base e 3 v (n + 1) (flat l)) (hl : l.length = n + 1) : ∃ g c, v = .slice (some ⟨g, 0, none⟩) l.length c ∧ OpsAt w g 0 l ∧ g < w.heap.size := by
  have h' := h
  obtain ⟨_, hd | ⟨g, cap, cur, hv, hb, hg, hn, hm, hsz, htk⟩⟩ := h'
  · exact absurd hd.2 (by omega)
  · refine ⟨g, cap, by rw [hl]; exact hv, opsAt_of fun j u hj => ?_, ?_⟩
    · have := h.cells (g := g) (by rw [hv]; rfl) j u hj
      rw [Addr.add_lit] at this
      exact this
    · exact (h.lt g (by rw [hv]; rfl)).2
theorem check_more (l : List Op3) (n g c : Nat) (w : World) (hn : n = l.length) (hg : g < w.heap.size) (h : OpsAt w g 0 l) :
    Calls Tryd.prog 9 #[.slice (some ⟨g, 0, none⟩) n c] w fun e w' => e = .returned (.tuple #[.int .i64 (chk l).1, errV (chk l).2]) ∧ Below w.heap.size w w' := by
  subst hn
  exact check_any l _ g 0 c w (fun _ => rfl) (.inl hg) h
theorem end_nil (t : Int) (w : World) : Calls Tryd.prog 24 #[.slice none 0 0, .int .i64 t, .int .i64 0] w fun e w' => e = .returned (.int .i64 0) ∧ w' = w :=
  end_any [] none 0 0 0 t w (by simp) (fun h => by simp at h) (fun i hi => by simp at hi)
theorem check_one (t a i : Int) (w : World) (b : Nat) (hb : b = w.heap.size) :
    Calls Tryd.prog 9 #[.slice (some ⟨b, 0, none⟩) 1 1] (w.alloc (.cells #[.int .i64 t, .int .i64 a, .int .i64 i] 50)) fun e w' => e = .returned (.tuple #[.int .i64 (chk [(t, a, i)]).1, errV (chk [(t, a, i)]).2]) ∧ Below (w.heap.size + 1) (w.alloc (.cells #[.int .i64 t, .int .i64 a, .int .i64 i] 50)) w' := by
  subst hb
  refine (check_any [(t, a, i)] (some ⟨w.heap.size, 0, none⟩) w.heap.size 0 1 _ (fun _ => rfl) (.inl (by simp)) (opsAt_of fun j u hj => ?_)).mono ?_
  · have := one_at w t a i j u hj
    rw [Addr.add_lit] at this
    exact this
  · rintro e w' ⟨he, hb'⟩
    rw [World.size_alloc] at hb'
    exact ⟨he, hb'⟩

set_option maxHeartbeats 2000000 in
theorem ends_walk (h : List Op3) (ad : Option Addr) (b off cap : Nat) (t a i : Int) (w : World) (ha : 0 < h.length → ad = some ⟨b, off, none⟩) (hn : ad = none → h.length = 0 ∧ cap = 0) (hbB : b < w.heap.size ∨ h = []) (hops : OpsAt w b off h) (hg : EtAt w) :
    Calls Tryd.prog 5 #[.slice ad h.length cap, .agg #[.int .i64 t, .int .i64 a, .int .i64 i]] w fun e w' => e = .returned (.bool true) ∧ Below w.heap.size w w' := by
  by_cases h39 : 39 < h.length
  · go_enter Tryd.func5, Tryd.ntmps5
    go_wp2_with (first | (go_at_call 9; refine (check_fact _ _ (by simp)).mono ?_; rintro e w1 ⟨rfl, hb1⟩; have B1 : Below w.heap.size w w1 := (((Below.refl _ _).alloc (Nat.le_refl _) _).alloc (by simp) _).trans (hb1.mono (by simp; omega))) | (go_at_call 10; refine (error_hit 6 6 _ (hg.below B1 hg.lt)).mono ?_; rintro e w2 ⟨rfl, hb2⟩))
    go_ret
    exact ⟨rfl, B1.trans (hb2.mono B1.size)⟩
  go_enter Tryd.func5, Tryd.ntmps5
  go_wp2_with fail
  refine (check_fact _ _ (by simp)).mono ?_
  rintro e w1 ⟨rfl, hb1⟩
  have B1 : Below w.heap.size w w1 := (((Below.refl _ _).alloc (Nat.le_refl _) _).alloc (by simp) _).trans (hb1.mono (by simp; omega))
  have hz1 : w.heap.size + 2 ≤ w1.heap.size := by have := hb1.size; simp at this; omega
  have cb := hb1.cell (p := ⟨w.heap.size, 0, none⟩) (by simp; omega)
  have cb1 := hb1.cell (p := ⟨w.heap.size, 1, none⟩) (by simp; omega)
  have cb2 := hb1.cell (p := ⟨w.heap.size, 2, none⟩) (by simp; omega)
  simp at cb cb1 cb2
  clear hb1
  go_wp2_with fail
  refine (error_hit 6 6 _ (hg.below B1 hg.lt)).mono ?_
  rintro e w2 ⟨rfl, hb2⟩
  have B2 := B1.trans (hb2.mono B1.size)
  rw [← hb2.cell (p := ⟨w.heap.size, 0, none⟩) (by simp; omega)] at cb
  rw [← hb2.cell (p := ⟨w.heap.size, 1, none⟩) (by simp; omega)] at cb1
  rw [← hb2.cell (p := ⟨w.heap.size, 2, none⟩) (by simp; omega)] at cb2
  have hz2 : w.heap.size + 2 ≤ w2.heap.size := by have := hb2.size; omega
  clear hb2 B1 hz1
  go_wp2_with fail
  refine (check_any h ad b off cap _ ha (by rcases hbB with h | h; exact .inl (by omega); exact .inr h) (hops.below B2 hbB)).mono ?_
  rintro e w3 ⟨rfl, hb3⟩
  have B3 := B2.trans (hb3.mono B2.size)
  rw [← hb3.cell (p := ⟨w.heap.size, 0, none⟩) (by simp; omega)] at cb
  rw [← hb3.cell (p := ⟨w.heap.size, 1, none⟩) (by simp; omega)] at cb1
  rw [← hb3.cell (p := ⟨w.heap.size, 2, none⟩) (by simp; omega)] at cb2
  have hz3 : w.heap.size + 2 ≤ w3.heap.size := by have := hb3.size; omega
  clear hb3 B2 hz2
  obtain ⟨i0, hi, hz0, hs0, hy0⟩ := info_parts infoOp
  have HI : Hid (Tryd.prog.info? 50 = some i0 ∧ i0.zero = some (.agg #[.int .i64 0, .int .i64 0, .int .i64 0]) ∧ i0.size = 3 ∧ i0.bytes = 24) := ⟨hi, hz0, hs0, hy0⟩
  clear hi hz0 hs0 hy0
  have h39' : h.length ≤ 39 := by omega
  cases ad with
  | none =>
    obtain ⟨h0, rfl⟩ := hn rfl
    obtain rfl : h = [] := List.length_eq_zero_iff.1 h0
    have hown3 : w3.ownsRow (w.heap.size + 1) 50 3 (.slice none 0 0) 0 (flat []) := World.ownsRow_nil _ _ _ _
    go_wp2_with (first | (at_builtin; refine wpList_append_own_none rfl (.tmp 31) (.tmp 32) 22 rfl (w.heap.size + 1) 50 i0 3 Tryd.underlying22 HI.out.1 (.slice none 0 0) 0 [] rfl (World.ownsRow_nil _ _ _ _) rfl ?_) | (at_builtin; refine wpList_append_own _ rfl (.tmp 34) (.tmp 36) 22 rfl (w.heap.size + 1) 50 i0 (.agg #[.int .i64 0, .int .i64 0, .int .i64 0]) 3 24 Tryd.underlying22 HI.out.1 HI.out.2.1 HI.out.2.2.1 HI.out.2.2.2 rfl (by decide) (.slice none 0 0) 0 (flat []) rfl (hown3.alloc _) ⟨w3.heap.size, 0, none⟩ 1 1 (flat [(t, a, i)]) rfl rfl (one_at _ t a i) (flat_one _) (by unfold maxLen; omega) (by omega) (by simp; omega) ?_; intro v10 w5 hown5 hgr5 hnil5; have cb5 := cell_past hown3 hgr5 cb; have cb15 := cell_past hown3 hgr5 cb1; have cb25 := cell_past hown3 hgr5 cb2))
    have B5 : Below w.heap.size w w5 := (B3.alloc (by omega) _).grown hgr5 (by simp; omega) (fun k hk => by simp [Value.ownBlock] at hk)
    have hz5 : w.heap.size + 2 ≤ w5.heap.size := by have h2 := hgr5.size; simp at h2; omega
    obtain ⟨g, c5, hv, hat, hgl⟩ := own_ops (l := [] ++ [(t, a, i)]) (by rw [flat_append]; exact hown5) (by simp)
    rw [hv]
    clear hown5 hgr5 hnil5 hown3 hn B3 cb cb1 cb2 HI hv
    refine (check_one t a i _ _ rfl).mono ?_
    rintro e w6 ⟨rfl, hb6⟩
    have B6 : Below w.heap.size w w6 := (B5.alloc (by omega) _).trans (hb6.mono (by omega))
    have hz6 : w5.heap.size < w6.heap.size := by have := hb6.size; simp at this; omega
    have hat6 : OpsAt w6 g 0 ([(t, a, i)]) := (hat.below ((Below.refl w5.heap.size w5).alloc (Nat.le_refl _) _) (.inl hgl)).below hb6 (.inl (by omega))
    have c6 : w6.cell? ⟨w.heap.size, 0, none⟩ = some (.int .i64 t) := by
      rw [hb6.cell (p := ⟨w.heap.size, 0, none⟩) (by simp; omega), World.cell?_alloc_lt _ _ ⟨w.heap.size, 0, none⟩ (by simp; omega)]; exact cb5
    have hbo : b < w.heap.size ∨ ([] : List Op3) = [] := .inr rfl
    clear hb6 cb5 cb15 cb25 hat
    have k0 : chk [] = (0, 0) := rfl
    have v0 := errV_zero
    by_cases e2 : (chk [(t, a, i)]).2 = 0
    · have hX : chk [(t, a, i)] = (0, 0) := (ends_good [] (t, a, i) h39' rfl e2).2 rfl
      clear e2
      go_wp2_with (first | (go_at_call 9; refine (check_more [(t, a, i)] _ g c5 _ (by simp) (by omega) hat6).mono ?_; rintro e w7 ⟨rfl, hb7⟩; have c7 := (hb7.cell (p := ⟨w.heap.size, 0, none⟩) (by simp; omega)).trans c6) | (go_at_call 24; refine (end_nil t _).mono ?_; rintro e w8 ⟨rfl, rfl⟩))
      go_ret
      exact ⟨rfl, B6.trans (hb7.mono B6.size)⟩
    · have v11 := errV_ne e2
      clear e2
      go_wp2_with (first | (go_at_call 9; refine (check_more [(t, a, i)] _ g c5 _ (by simp) (by omega) hat6).mono ?_; rintro e w7 ⟨rfl, hb7⟩; have c7 := (hb7.cell (p := ⟨w.heap.size, 0, none⟩) (by simp; omega)).trans c6))
      go_ret
      exact ⟨rfl, B6.trans (hb7.mono B6.size)⟩
  | some adr =>
    have hsrc : ∀ j u, (flat h)[j]? = some u → w3.cell? (adr.add j) = some u := by
      intro j u hj
      have hl : 0 < h.length := by
        have := (List.getElem?_eq_some_iff.1 hj).1
        rw [flat_length] at this; omega
      have hadr := ha hl
      simp only [Option.some.injEq] at hadr
      subst hadr
      rw [Addr.add_lit]
      exact (hops.below B3 hbB).flat j u hj
    go_wp2_with (first | (at_builtin; refine wpList_append_own _ rfl (.tmp 31) (.tmp 32) 22 rfl (w.heap.size + 1) 50 i0 (.agg #[.int .i64 0, .int .i64 0, .int .i64 0]) 3 24 Tryd.underlying22 HI.out.1 HI.out.2.1 HI.out.2.2.1 HI.out.2.2.2 rfl (by decide) (.slice none 0 0) 0 [] rfl (World.ownsRow_nil _ _ _ _) adr h.length cap (flat h) rfl (flat_length h) hsrc (flat_one h) (by unfold maxLen; omega) (by omega) (by omega) ?_; intro v9 w4 hown4 hgr4 hnil4; simp only [Nat.zero_add, List.nil_append] at hown4; have cb4 := hgr4.cell cb (by simp [Value.ownBlock]); have cb14 := hgr4.cell cb1 (by simp [Value.ownBlock]); have cb24 := hgr4.cell cb2 (by simp [Value.ownBlock])) | (at_builtin; refine wpList_append_own _ rfl (.tmp 34) (.tmp 36) 22 rfl (w.heap.size + 1) 50 i0 (.agg #[.int .i64 0, .int .i64 0, .int .i64 0]) 3 24 Tryd.underlying22 HI.out.1 HI.out.2.1 HI.out.2.2.1 HI.out.2.2.2 rfl (by decide) v9 h.length (flat h) rfl (hown4.alloc _) ⟨w4.heap.size, 0, none⟩ 1 1 (flat [(t, a, i)]) rfl rfl (one_at _ t a i) (flat_one _) (by unfold maxLen; omega) (by omega) (by have := hgr4.size; simp; omega) ?_; intro v10 w5 hown5 hgr5 hnil5; have cb5 := cell_past hown4 hgr5 cb4; have cb15 := cell_past hown4 hgr5 cb14; have cb25 := cell_past hown4 hgr5 cb24; clear cb4 cb14 cb24))
    have B4 := B3.grown hgr4 (by omega) (fun k hk => by simp [Value.ownBlock] at hk)
    have B5 : Below w.heap.size w w5 := (B4.alloc (by have := hgr4.size; omega) _).grown hgr5 (by have := hgr4.size; simp; omega) (fun k hk => by have := (hown4.lt k hk).1; omega)
    have hz5 : w.heap.size + 2 ≤ w5.heap.size := by have h1 := hgr4.size; have h2 := hgr5.size; simp at h2; omega
    obtain ⟨g, c5, hv, hat, hgl⟩ := own_ops (l := h ++ [(t, a, i)]) (by rw [flat_append]; exact hown5) (by simp)
    rw [hv]
    clear hown5 hgr5 hnil5 hown4 hgr4 hnil4 hsrc hn B4 B3 cb cb1 cb2 HI hv
    refine (check_one t a i _ _ rfl).mono ?_
    rintro e w6 ⟨rfl, hb6⟩
    have B6 : Below w.heap.size w w6 := (B5.alloc (by omega) _).trans (hb6.mono (by omega))
    have hz6 : w5.heap.size < w6.heap.size := by have := hb6.size; simp at this; omega
    have hat6 : OpsAt w6 g 0 (h ++ [(t, a, i)]) := (hat.below ((Below.refl w5.heap.size w5).alloc (Nat.le_refl _) _) (.inl hgl)).below hb6 (.inl (by omega))
    have c6 : w6.cell? ⟨w.heap.size, 0, none⟩ = some (.int .i64 t) := by
      rw [hb6.cell (p := ⟨w.heap.size, 0, none⟩) (by simp; omega), World.cell?_alloc_lt _ _ ⟨w.heap.size, 0, none⟩ (by simp; omega)]; exact cb5
    have hbo : b < w.heap.size ∨ h = [] := hbB
    clear hb6 cb5 cb15 cb25 hat
    have HB := ends_bad h (t, a, i) h39'
    have HG := ends_good h (t, a, i) h39'
    by_cases e1 : (chk h).2 = 0
    · have v8 : errV (chk h).2 = .nilIface := by rw [e1]; rfl
      by_cases e2 : (chk [(t, a, i)]).2 = 0
      · have v11 : errV (chk [(t, a, i)]).2 = .nilIface := by rw [e2]; rfl
        have HG' := HG e1 e2
        clear HB HG e1 e2
        by_cases e3 : endOf h t = 0
        · have hX : chk (h ++ [(t, a, i)]) = (0, 0) := HG'.2 e3
          have v0 := errV_zero
          clear HG'
          go_wp2_with (first | (go_at_call 9; refine (check_more (h ++ [(t, a, i)]) _ g c5 _ (by simp) (by omega) hat6).mono ?_; rintro e w7 ⟨rfl, hb7⟩; have c7 := (hb7.cell (p := ⟨w.heap.size, 0, none⟩) (by simp; omega)).trans c6) | (go_at_call 24; refine (end_any h (some adr) b off cap t _ (by omega) ha ((hops.below B6 hbo).below (hb7.mono B6.size) hbo)).mono ?_; rintro e w8 ⟨rfl, rfl⟩))
          go_ret
          exact ⟨rfl, B6.trans (hb7.mono B6.size)⟩
        · have hX : chk (h ++ [(t, a, i)]) = (h.length, 6) := HG'.1 e3
          have e3' : (endOf h t == 0) = false := by simpa using e3
          have v6 : errV 6 = .iface 67 (.int .i64 6) := rfl
          clear HG'
          go_wp2_with (first | (go_at_call 9; refine (check_more (h ++ [(t, a, i)]) _ g c5 _ (by simp) (by omega) hat6).mono ?_; rintro e w7 ⟨rfl, hb7⟩; have c7 := (hb7.cell (p := ⟨w.heap.size, 0, none⟩) (by simp; omega)).trans c6) | (go_at_call 24; refine (end_any h (some adr) b off cap t _ (by omega) ha ((hops.below B6 hbo).below (hb7.mono B6.size) hbo)).mono ?_; rintro e w8 ⟨rfl, rfl⟩) | (go_at_call 10; refine (error_hit 6 6 _ ((hg.below B6 hg.lt).below (hb7.mono B6.size) hg.lt)).mono ?_; rintro e w9 ⟨rfl, hb9⟩))
          go_ret
          exact ⟨rfl, (B6.trans (hb7.mono B6.size)).trans (hb9.mono (by have := hb7.size; omega))⟩
      · have v11 := errV_ne e2
        have v6 := errV_ne (HB (.inr e2))
        clear HB HG e1 e2
        go_wp2_with (first | (go_at_call 9; refine (check_more (h ++ [(t, a, i)]) _ g c5 _ (by simp) (by omega) hat6).mono ?_; rintro e w7 ⟨rfl, hb7⟩; have c7 := (hb7.cell (p := ⟨w.heap.size, 0, none⟩) (by simp; omega)).trans c6))
        go_ret
        exact ⟨rfl, B6.trans (hb7.mono B6.size)⟩
    · have v8 := errV_ne e1
      have v6 := errV_ne (HB (.inl e1))
      clear HB HG e1
      go_wp2_with (first | (go_at_call 9; refine (check_more (h ++ [(t, a, i)]) _ g c5 _ (by simp) (by omega) hat6).mono ?_; rintro e w7 ⟨rfl, hb7⟩; have c7 := (hb7.cell (p := ⟨w.heap.size, 0, none⟩) (by simp; omega)).trans c6))
      go_ret
      exact ⟨rfl, B6.trans (hb7.mono B6.size)⟩
end Go.Proofs.YtjaeaanpbdmfgaaDoor
