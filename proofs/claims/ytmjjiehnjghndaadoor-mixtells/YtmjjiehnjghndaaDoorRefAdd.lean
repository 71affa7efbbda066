/-
  PROVED HERE: laneref1.Add puts an edge into some that rise, once. Old memory stays as it was.
  Conditions: none.
-/
import Derived.Test.YtmjjiehnjghndaaDoorEdgeRow
import Derived.Test.YtmjjiehnjghndaaDoorMgam
import Derived.Test.YtmjjiehnjghndaaDoorRegion
import Derived.Laws.AppendOwnNone
namespace Go.Proofs.YtmjjiehnjghndaaDoor
open Go.RowKit

/-- A slice of no more than its room. -/
def Roomy (v : Value) : Prop := ∃ ad n c, v = .slice ad n c ∧ n ≤ c
theorem own_roomy {w : World} {base e s n : Nat} {v : Value} {xs : List Value} (h : w.ownsRow base e s v n xs) : Roomy v := by
  obtain ⟨_, ⟨hv, hd⟩ | ⟨g, cap, cur, hv, hb, hg, hn, _⟩⟩ := h
  · exact ⟨none, 0, 0, hv, Nat.le_refl _⟩
  · exact ⟨_, _, _, hv, hn⟩

theorem flatE_split (l : List Edge2) (k : Nat) : flatE l = flatE (l.take k) ++ flatE (l.drop k) := by rw [← flatE_append, List.take_append_drop]
theorem flatE_take (l : List Edge2) (k j : Nat) (u : Value) (h : (flatE (l.take k))[j]? = some u) : (flatE l)[j]? = some u := by
  rw [flatE_split l k, List.getElem?_append_left (List.getElem?_eq_some_iff.1 h).1]
  exact h
theorem flatE_drop (l : List Edge2) (k j : Nat) (u : Value) (h : (flatE (l.drop k))[j]? = some u) : (flatE l)[k * 2 + j]? = some u := by
  have hlt := (List.getElem?_eq_some_iff.1 h).1
  rw [flatE_length, List.length_drop] at hlt
  have hl : (flatE (l.take k)).length = k * 2 := by rw [flatE_length, List.length_take, Nat.min_eq_left (by omega)]
  rw [flatE_split l k, List.getElem?_append_right (by omega), hl, Nat.add_sub_cancel_left]
  exact h
set_option maxHeartbeats 8000000 in
set_option maxRecDepth 100000 in
theorem refAdd_any (l : List Edge2) (x1 x2 : Int) (v : Value) (w : World) (hI : IsEdges w v l) (hr : Roomy v) (hl : l.length ≤ 2000) :
    Calls Tryd.prog 33 #[v, .agg #[.int .i64 x1, .int .i64 x2]] w fun e w' => ∃ v', e = .returned v' ∧ IsEdges w' v' (addE l (x1, x2)) ∧ Roomy v' ∧ Below w.heap.size w w' := by
  have HR : Hid (Roomy v) := hr
  have HIv : Hid (IsEdges w v l) := hI
  obtain ⟨ad, b, off, cap, rfl, ha, hnn, hbB, hops⟩ := hI
  have hcap : l.length ≤ cap := by
    obtain ⟨_, _, _, he, hle⟩ := hr
    simp only [Value.slice.injEq] at he
    omega
  clear hr
  have HO : Hid (∀ W, Below w.heap.size w W → ∀ k, k < l.length → ad = some ⟨b, off, none⟩ ∧ W.cell? ⟨b, off + k * 2, none⟩ = some (.int .i64 (l.getD k (0, 0)).1) ∧ W.cell? ⟨b, off + k * 2 + 1, none⟩ = some (.int .i64 (l.getD k (0, 0)).2)) := fun W hW k hk => ⟨ha (by omega), (hops.below hW hbB) k hk⟩
  obtain ⟨P, hP⟩ : ∃ P, P = w.heap.size := ⟨_, rfl⟩
  obtain ⟨W, hW⟩ : ∃ W, W = w.alloc (.cells #[.int .i64 x1, .int .i64 x2] 61) := ⟨_, rfl⟩
  have p0 : W.cell? ⟨P, 0, none⟩ = some (.int .i64 x1) := by rw [hW, hP]; simp
  have p1 : W.cell? ⟨P, 1, none⟩ = some (.int .i64 x2) := by rw [hW, hP]; simp
  have hbW : Below w.heap.size w W := by rw [hW]; exact (Below.refl _ w).alloc (Nat.le_refl _) _
  have hPW : P < W.heap.size := World.block_lt_of_cell? W _ p0
  have HW : Hid (P = w.heap.size ∧ W = w.alloc (.cells #[.int .i64 x1, .int .i64 x2] 61)) := ⟨hP, hW⟩
  clear hP hW ha hbB hops
  obtain ⟨i0, hi, hz0, hs0, hy0⟩ := info_parts infoEdge
  have HI : Hid (Tryd.prog.info? 61 = some i0 ∧ i0.zero = some (.agg #[.int .i64 0, .int .i64 0]) ∧ i0.size = 2 ∧ i0.bytes = 16) := ⟨hi, hz0, hs0, hy0⟩
  clear hi hz0 hs0 hy0
  go_enter Tryd.func33, Tryd.ntmps33
  go_wp2_with fail
  rw [← HW.out.2, ← HW.out.1]
  go_loopw [5] (fun v5 wr => ∃ (k n : Nat), k ≤ l.length ∧ v5 = .int .i64 k ∧ (∀ j, j < k → ltB (l.getD j (0, 0)) (x1, x2) = true) ∧ wr = W.drewN n) (fun v5 _ => l.length - (intOf v5).toNat)
  case atStart => exact ⟨0, 0, Nat.zero_le _, rfl, fun j hj => absurd hj (by omega), rfl⟩
  case round =>
    obtain ⟨k, n, hk, rfl, hlow, hwr⟩ := hrel
    have HLOW : Hid (∀ j, j < k → ltB (l.getD j (0, 0)) (x1, x2) = true) := hlow
    clear hlow
    subst hwr
    by_cases hlt : k < l.length
    · obtain ⟨rfl, c0, c1⟩ := HO.out W hbW k hlt
      obtain ⟨⟨t, a⟩, ho⟩ : ∃ o : Edge2, l.getD k (0, 0) = o := ⟨_, rfl⟩
      rw [ho] at c0 c1
      simp only at c0 c1
      have hbl : b < W.heap.size := World.block_lt_of_cell? W _ c0
      have HK : Hid (l.getD k (0, 0) = (t, a)) := ho
      clear ho
      have hlti : (k : Int) < (l.length : Int) := by omega
      by_cases h1 : t < x1
      · have HL : Hid (ltB (t, a) (x1, x2) = true) := by show ltB (t, a) (x1, x2) = true; rw [ltB_iff]; exact .inl h1
        go_wp2_with fail
        go_quiet (fail)
        go_wp2
        go_roundw
        case rel => exact ⟨k + 1, n + nq, by omega, by go_num, fun j hj => (by rcases Nat.lt_or_ge j k with h | h; exact HLOW.out j h; rw [show j = k by omega, HK.out]; exact HL.out), by simp⟩
        case measure => simp [intOf]; omega
      · have h1' : decide (t < x1) = false := by simpa using h1
        by_cases h2 : t = x1
        · have h2' : (t == x1) = true := by simpa using h2
          by_cases h3 : a < x2
          · have HL : Hid (ltB (t, a) (x1, x2) = true) := by show ltB (t, a) (x1, x2) = true; rw [ltB_iff]; exact .inr ⟨h2, h3⟩
            clear h2
            go_wp2_with fail
            go_quiet (fail)
            go_wp2
            go_roundw
            case rel => exact ⟨k + 1, n + nq, by omega, by go_num, fun j hj => (by rcases Nat.lt_or_ge j k with h | h; exact HLOW.out j h; rw [show j = k by omega, HK.out]; exact HL.out), by simp⟩
            case measure => simp [intOf]; omega
          · have h3' : decide (a < x2) = false := by simpa using h3
            have HLD : Hid (leadE l (x1, x2) = k) := leadE_eq l (x1, x2) k hk HLOW.out (fun _ => by rw [HK.out]; cases hb : ltB (t, a) (x1, x2) with | false => rfl | true => (rw [ltB_iff] at hb; simp only at hb; omega))
            by_cases h4 : a = x2
            · have h4' : (a == x2) = true := by simpa using h4
              have HEQ : Hid (addE l (x1, x2) = l) := addE_there l (x1, x2) (by rw [HLD.out]; exact hlt) (by rw [HLD.out, HK.out, h2, h4])
              clear h1 h2 h3 h4
              go_wp2_with fail
              go_quiet (fail)
              obtain ⟨V, hV⟩ : ∃ V, V = (W.drewN n).drewN nq := ⟨_, rfl⟩
              have hbV : Below W.heap.size W V := by rw [hV]; exact below_drewN (below_drewN (Below.refl _ W) _) _
              rw [← hV]
              have q0 : V.cell? ⟨P, 0, none⟩ = some (.int .i64 x1) := (hbV.cell (p := ⟨P, 0, none⟩) hPW).trans p0
              have q1 : V.cell? ⟨P, 1, none⟩ = some (.int .i64 x2) := (hbV.cell (p := ⟨P, 1, none⟩) hPW).trans p1
              have hbwV : Below w.heap.size w V := hbW.trans (hbV.mono hbW.size)
              clear hV
              have k0 : V.cell? ⟨b, off + k * 2, none⟩ = some (.int .i64 t) := (hbV.cell (p := ⟨b, off + k * 2, none⟩) hbl).trans c0
              have k1 : V.cell? ⟨b, off + k * 2 + 1, none⟩ = some (.int .i64 a) := (hbV.cell (p := ⟨b, off + k * 2 + 1, none⟩) hbl).trans c1
              clear c0 c1 p0 p1
              go_wp2_with fail
              go_quiet (fail)
              go_wp2
              go_ret
              exact ⟨_, rfl, by rw [HEQ.out]; exact HIv.out.below (below_drewN hbwV _) (Nat.le_refl _), HR.out, below_drewN hbwV _⟩
            · have h4' : (a == x2) = false := by simpa using h4
              have HNE : Hid (k < l.length → l.getD k (0, 0) ≠ (x1, x2)) := fun _ => by rw [HK.out]; intro he; injection he with _ he2; exact h4 he2
              clear h1 h2 h3 h4
              go_wp2_with fail
              go_quiet (fail)
              obtain ⟨V, hV⟩ : ∃ V, V = (W.drewN n).drewN nq := ⟨_, rfl⟩
              have hbV : Below W.heap.size W V := by rw [hV]; exact below_drewN (below_drewN (Below.refl _ W) _) _
              rw [← hV]
              have q0 : V.cell? ⟨P, 0, none⟩ = some (.int .i64 x1) := (hbV.cell (p := ⟨P, 0, none⟩) hPW).trans p0
              have q1 : V.cell? ⟨P, 1, none⟩ = some (.int .i64 x2) := (hbV.cell (p := ⟨P, 1, none⟩) hPW).trans p1
              have hbwV : Below w.heap.size w V := hbW.trans (hbV.mono hbW.size)
              clear hV
              have k0 : V.cell? ⟨b, off + k * 2, none⟩ = some (.int .i64 t) := (hbV.cell (p := ⟨b, off + k * 2, none⟩) hbl).trans c0
              have k1 : V.cell? ⟨b, off + k * 2 + 1, none⟩ = some (.int .i64 a) := (hbV.cell (p := ⟨b, off + k * 2 + 1, none⟩) hbl).trans c1
              clear c0 c1 p0 p1
              go_wp2_with fail
              go_quiet (fail)
              obtain ⟨U, hU⟩ : ∃ U, U = V.drewN nq := ⟨_, rfl⟩
              have hbU : Below V.heap.size V U := by rw [hU]; exact below_drewN (Below.refl _ V) _
              rw [← hU]
              have r0 : U.cell? ⟨P, 0, none⟩ = some (.int .i64 x1) := (hbU.cell (p := ⟨P, 0, none⟩) (World.block_lt_of_cell? V _ q0)).trans q0
              have r1 : U.cell? ⟨P, 1, none⟩ = some (.int .i64 x2) := (hbU.cell (p := ⟨P, 1, none⟩) (World.block_lt_of_cell? V _ q1)).trans q1
              have hbwU : Below w.heap.size w U := hbwV.trans (hbU.mono hbwV.size)
              obtain ⟨B, hB1, hB2⟩ : ∃ B, B ≤ U.heap.size ∧ U.heap.size ≤ B := ⟨_, Nat.le_refl _, Nat.le_refl _⟩
              have hPU : P < U.heap.size := World.block_lt_of_cell? U _ r0
              have hwB : w.heap.size ≤ B := Nat.le_trans hbwU.size hB2
              clear hU hbU hbV hbwV
              have HSRC : Hid (∀ W', Below w.heap.size w W' → ∀ j u, (flatE l)[j]? = some u → W'.cell? ⟨b, off + j, none⟩ = some u) := fun W' hW' => EdgesAt.flat (fun i hi => (HO.out W' hW' i hi).2)
              have HS1 : Hid (∀ W', Below w.heap.size w W' → ∀ j u, (flatE (l.take k))[j]? = some u → W'.cell? ((⟨b, off, none⟩ : Addr).add j) = some u) := fun W' hW' j u hj => by rw [Addr.add_lit]; exact HSRC.out W' hW' j u (flatE_take l k j u hj)
              have HS2 : Hid (∀ W', Below w.heap.size w W' → ∀ j u, (flatE (l.drop k))[j]? = some u → W'.cell? ((⟨b, off + k * 2, none⟩ : Addr).add j) = some u) := fun W' hW' j u hj => by rw [Addr.add_lit, Nat.add_assoc]; exact HSRC.out W' hW' _ u (flatE_drop l k j u hj)
              have hl1 : (flatE (l.take k)).length = k * 2 := by rw [flatE_length, List.length_take, Nat.min_eq_left (by omega)]
              have hl2 : (flatE (l.drop k)).length = (l.length - k) * 2 := by rw [flatE_length, List.length_drop]
              have HL : Hid ((flatE (l.take k)).length = k * 2 ∧ (flatE (l.drop k)).length = (l.length - k) * 2) := ⟨hl1, hl2⟩
              have hcm : cap ≤ maxLen → True := fun _ => trivial
              clear hl1 hl2 hcm
              go_wp2_with (first | (at_builtin; refine wpList_append_own _ rfl (.tmp 56) (.tmp 59) 46 rfl B 61 i0 (.agg #[.int .i64 0, .int .i64 0]) 2 16 Tryd.underlying46 HI.out.1 HI.out.2.1 HI.out.2.2.1 HI.out.2.2.2 rfl (by decide) (.slice none 0 0) 0 [] rfl (World.ownsRow_nil _ _ _ _) ⟨b, off, none⟩ k cap (flatE (l.take k)) rfl HL.out.1 (HS1.out U hbwU) (flatE_one _) (by unfold maxLen; omega) (by omega) (by first | omega | (simp; omega)) ?_; intro v6 w6 hown6 hgr6 hnil6; simp only [Nat.zero_add, List.nil_append] at hown6; have s0 := hgr6.cell r0 (by simp [Value.ownBlock]); have s1 := hgr6.cell r1 (by simp [Value.ownBlock]); have hB6 : Below w.heap.size w w6 := hbwU.grown hgr6 hbwU.size (fun m hm => by simp [Value.ownBlock] at hm); have hs6 := hgr6.size; have HO6 : Hid (w6.ownsRow B 61 2 v6 k (flatE (l.take k))) := hown6; clear hown6) | (at_builtin; refine wpList_append_own _ rfl (.tmp 61) (.tmp 63) 46 rfl B 61 i0 (.agg #[.int .i64 0, .int .i64 0]) 2 16 Tryd.underlying46 HI.out.1 HI.out.2.1 HI.out.2.2.1 HI.out.2.2.2 rfl (by decide) v6 k (flatE (l.take k)) rfl (HO6.out.alloc _) ⟨w6.heap.size, 0, none⟩ 1 1 (flatE [(x1, x2)]) rfl rfl (one_edge w6 x1 x2) (flatE_one _) (by unfold maxLen; omega) (by omega) (by first | omega | (simp; omega)) ?_; intro v7 w7 hown7 hgr7 hnil7; have hB7 : Below w.heap.size w w7 := (hB6.alloc (by omega) _).grown hgr7 (by simp; omega) (fun m hm => by have := (HO6.out.lt m hm).1; omega); have hs7 := hgr7.size; simp at hs7; have HO7 : Hid (w7.ownsRow B 61 2 v7 (k + 1) (flatE (l.take k) ++ flatE [(x1, x2)])) := hown7; clear hown7) | (at_builtin; refine wpList_append_own _ rfl (.tmp 65) (.tmp 68) 46 rfl B 61 i0 (.agg #[.int .i64 0, .int .i64 0]) 2 16 Tryd.underlying46 HI.out.1 HI.out.2.1 HI.out.2.2.1 HI.out.2.2.2 rfl (by decide) v7 (k + 1) (flatE (l.take k) ++ flatE [(x1, x2)]) rfl HO7.out ⟨b, off + k * 2, none⟩ (l.length - k) (cap - k) (flatE (l.drop k)) rfl HL.out.2 (HS2.out w7 hB7) (flatE_one _) (by unfold maxLen; omega) (by omega) (by first | omega | (simp; omega)) ?_; intro v8 w8 hown8' hgr8 hnil8; have hB8 : Below w.heap.size w w8 := hB7.grown hgr8 (by omega) (fun m hm => by have := (HO7.out.lt m hm).1; omega)))
              have hown8 : w8.ownsRow B 61 2 v8 (k + 1 + (l.length - k)) (flatE (addE l (x1, x2))) := by
                rw [addE_new l (x1, x2) (by rw [HLD.out]; exact HNE.out), HLD.out, flatE_append, flatE_append]
                simpa using hown8'
              go_ret
              refine ⟨_, rfl, isEdges_own hown8 ?_, own_roomy hown8, ?_⟩
              · rw [addE_new l (x1, x2) (by rw [HLD.out]; exact HNE.out), HLD.out]
                simp [List.length_take, List.length_drop, Nat.min_eq_left hk]; omega
              · exact hB8
        · have h2' : (t == x1) = false := by simpa using h2
          have HLD : Hid (leadE l (x1, x2) = k) := leadE_eq l (x1, x2) k hk HLOW.out (fun _ => by rw [HK.out]; cases hb : ltB (t, a) (x1, x2) with | false => rfl | true => (rw [ltB_iff] at hb; simp only at hb; omega))
          have HNE : Hid (k < l.length → l.getD k (0, 0) ≠ (x1, x2)) := fun _ => by rw [HK.out]; intro he; injection he with he1 _; exact h2 he1
          clear h1 h2
          go_wp2_with fail
          go_quiet (fail)
          obtain ⟨V, hV⟩ : ∃ V, V = (W.drewN n).drewN nq := ⟨_, rfl⟩
          have hbV : Below W.heap.size W V := by rw [hV]; exact below_drewN (below_drewN (Below.refl _ W) _) _
          rw [← hV]
          have q0 : V.cell? ⟨P, 0, none⟩ = some (.int .i64 x1) := (hbV.cell (p := ⟨P, 0, none⟩) hPW).trans p0
          have q1 : V.cell? ⟨P, 1, none⟩ = some (.int .i64 x2) := (hbV.cell (p := ⟨P, 1, none⟩) hPW).trans p1
          have hbwV : Below w.heap.size w V := hbW.trans (hbV.mono hbW.size)
          clear hV
          have k0 : V.cell? ⟨b, off + k * 2, none⟩ = some (.int .i64 t) := (hbV.cell (p := ⟨b, off + k * 2, none⟩) hbl).trans c0
          have k1 : V.cell? ⟨b, off + k * 2 + 1, none⟩ = some (.int .i64 a) := (hbV.cell (p := ⟨b, off + k * 2 + 1, none⟩) hbl).trans c1
          clear c0 c1 p0 p1
          go_wp2_with fail
          go_quiet (fail)
          obtain ⟨U, hU⟩ : ∃ U, U = V.drewN nq := ⟨_, rfl⟩
          have hbU : Below V.heap.size V U := by rw [hU]; exact below_drewN (Below.refl _ V) _
          rw [← hU]
          have r0 : U.cell? ⟨P, 0, none⟩ = some (.int .i64 x1) := (hbU.cell (p := ⟨P, 0, none⟩) (World.block_lt_of_cell? V _ q0)).trans q0
          have r1 : U.cell? ⟨P, 1, none⟩ = some (.int .i64 x2) := (hbU.cell (p := ⟨P, 1, none⟩) (World.block_lt_of_cell? V _ q1)).trans q1
          have hbwU : Below w.heap.size w U := hbwV.trans (hbU.mono hbwV.size)
          obtain ⟨B, hB1, hB2⟩ : ∃ B, B ≤ U.heap.size ∧ U.heap.size ≤ B := ⟨_, Nat.le_refl _, Nat.le_refl _⟩
          have hPU : P < U.heap.size := World.block_lt_of_cell? U _ r0
          have hwB : w.heap.size ≤ B := Nat.le_trans hbwU.size hB2
          clear hU hbU hbV hbwV
          have HSRC : Hid (∀ W', Below w.heap.size w W' → ∀ j u, (flatE l)[j]? = some u → W'.cell? ⟨b, off + j, none⟩ = some u) := fun W' hW' => EdgesAt.flat (fun i hi => (HO.out W' hW' i hi).2)
          have HS1 : Hid (∀ W', Below w.heap.size w W' → ∀ j u, (flatE (l.take k))[j]? = some u → W'.cell? ((⟨b, off, none⟩ : Addr).add j) = some u) := fun W' hW' j u hj => by rw [Addr.add_lit]; exact HSRC.out W' hW' j u (flatE_take l k j u hj)
          have HS2 : Hid (∀ W', Below w.heap.size w W' → ∀ j u, (flatE (l.drop k))[j]? = some u → W'.cell? ((⟨b, off + k * 2, none⟩ : Addr).add j) = some u) := fun W' hW' j u hj => by rw [Addr.add_lit, Nat.add_assoc]; exact HSRC.out W' hW' _ u (flatE_drop l k j u hj)
          have hl1 : (flatE (l.take k)).length = k * 2 := by rw [flatE_length, List.length_take, Nat.min_eq_left (by omega)]
          have hl2 : (flatE (l.drop k)).length = (l.length - k) * 2 := by rw [flatE_length, List.length_drop]
          have HL : Hid ((flatE (l.take k)).length = k * 2 ∧ (flatE (l.drop k)).length = (l.length - k) * 2) := ⟨hl1, hl2⟩
          have hcm : cap ≤ maxLen → True := fun _ => trivial
          clear hl1 hl2 hcm
          go_wp2_with (first | (at_builtin; refine wpList_append_own _ rfl (.tmp 56) (.tmp 59) 46 rfl B 61 i0 (.agg #[.int .i64 0, .int .i64 0]) 2 16 Tryd.underlying46 HI.out.1 HI.out.2.1 HI.out.2.2.1 HI.out.2.2.2 rfl (by decide) (.slice none 0 0) 0 [] rfl (World.ownsRow_nil _ _ _ _) ⟨b, off, none⟩ k cap (flatE (l.take k)) rfl HL.out.1 (HS1.out U hbwU) (flatE_one _) (by unfold maxLen; omega) (by omega) (by first | omega | (simp; omega)) ?_; intro v6 w6 hown6 hgr6 hnil6; simp only [Nat.zero_add, List.nil_append] at hown6; have s0 := hgr6.cell r0 (by simp [Value.ownBlock]); have s1 := hgr6.cell r1 (by simp [Value.ownBlock]); have hB6 : Below w.heap.size w w6 := hbwU.grown hgr6 hbwU.size (fun m hm => by simp [Value.ownBlock] at hm); have hs6 := hgr6.size; have HO6 : Hid (w6.ownsRow B 61 2 v6 k (flatE (l.take k))) := hown6; clear hown6) | (at_builtin; refine wpList_append_own _ rfl (.tmp 61) (.tmp 63) 46 rfl B 61 i0 (.agg #[.int .i64 0, .int .i64 0]) 2 16 Tryd.underlying46 HI.out.1 HI.out.2.1 HI.out.2.2.1 HI.out.2.2.2 rfl (by decide) v6 k (flatE (l.take k)) rfl (HO6.out.alloc _) ⟨w6.heap.size, 0, none⟩ 1 1 (flatE [(x1, x2)]) rfl rfl (one_edge w6 x1 x2) (flatE_one _) (by unfold maxLen; omega) (by omega) (by first | omega | (simp; omega)) ?_; intro v7 w7 hown7 hgr7 hnil7; have hB7 : Below w.heap.size w w7 := (hB6.alloc (by omega) _).grown hgr7 (by simp; omega) (fun m hm => by have := (HO6.out.lt m hm).1; omega); have hs7 := hgr7.size; simp at hs7; have HO7 : Hid (w7.ownsRow B 61 2 v7 (k + 1) (flatE (l.take k) ++ flatE [(x1, x2)])) := hown7; clear hown7) | (at_builtin; refine wpList_append_own _ rfl (.tmp 65) (.tmp 68) 46 rfl B 61 i0 (.agg #[.int .i64 0, .int .i64 0]) 2 16 Tryd.underlying46 HI.out.1 HI.out.2.1 HI.out.2.2.1 HI.out.2.2.2 rfl (by decide) v7 (k + 1) (flatE (l.take k) ++ flatE [(x1, x2)]) rfl HO7.out ⟨b, off + k * 2, none⟩ (l.length - k) (cap - k) (flatE (l.drop k)) rfl HL.out.2 (HS2.out w7 hB7) (flatE_one _) (by unfold maxLen; omega) (by omega) (by first | omega | (simp; omega)) ?_; intro v8 w8 hown8' hgr8 hnil8; have hB8 : Below w.heap.size w w8 := hB7.grown hgr8 (by omega) (fun m hm => by have := (HO7.out.lt m hm).1; omega)))
          have hown8 : w8.ownsRow B 61 2 v8 (k + 1 + (l.length - k)) (flatE (addE l (x1, x2))) := by
            rw [addE_new l (x1, x2) (by rw [HLD.out]; exact HNE.out), HLD.out, flatE_append, flatE_append]
            simpa using hown8'
          go_ret
          refine ⟨_, rfl, isEdges_own hown8 ?_, own_roomy hown8, ?_⟩
          · rw [addE_new l (x1, x2) (by rw [HLD.out]; exact HNE.out), HLD.out]
            simp [List.length_take, List.length_drop, Nat.min_eq_left hk]; omega
          · exact hB8
    · obtain rfl : k = l.length := by omega
      have HLD : Hid (leadE l (x1, x2) = l.length) := leadE_eq l (x1, x2) l.length hk HLOW.out (fun h => absurd h (by omega))
      have HAE : Hid (addE l (x1, x2) = l ++ [(x1, x2)]) := by
        show addE l (x1, x2) = l ++ [(x1, x2)]
        rw [addE_new l (x1, x2) (by rw [HLD.out]; intro h; omega), HLD.out]; simp
      clear hlt hk HLOW
      cases ad with
      | none =>
        obtain ⟨h0, rfl⟩ := hnn rfl
        obtain rfl : l = [] := List.length_eq_zero_iff.1 h0
        clear h0 hnn hcap
        go_wp2_with fail
        go_quiet (fail)
        obtain ⟨V, hV⟩ : ∃ V, V = (W.drewN n).drewN nq := ⟨_, rfl⟩
        have hbV : Below W.heap.size W V := by rw [hV]; exact below_drewN (below_drewN (Below.refl _ W) _) _
        rw [← hV]
        have q0 : V.cell? ⟨P, 0, none⟩ = some (.int .i64 x1) := (hbV.cell (p := ⟨P, 0, none⟩) hPW).trans p0
        have q1 : V.cell? ⟨P, 1, none⟩ = some (.int .i64 x2) := (hbV.cell (p := ⟨P, 1, none⟩) hPW).trans p1
        have hbwV : Below w.heap.size w V := hbW.trans (hbV.mono hbW.size)
        clear hV
        go_wp2_with fail
        go_quiet (fail)
        obtain ⟨U, hU⟩ : ∃ U, U = V.drewN nq := ⟨_, rfl⟩
        have hbU : Below V.heap.size V U := by rw [hU]; exact below_drewN (Below.refl _ V) _
        rw [← hU]
        have r0 : U.cell? ⟨P, 0, none⟩ = some (.int .i64 x1) := (hbU.cell (p := ⟨P, 0, none⟩) (World.block_lt_of_cell? V _ q0)).trans q0
        have r1 : U.cell? ⟨P, 1, none⟩ = some (.int .i64 x2) := (hbU.cell (p := ⟨P, 1, none⟩) (World.block_lt_of_cell? V _ q1)).trans q1
        have hbwU : Below w.heap.size w U := hbwV.trans (hbU.mono hbwV.size)
        obtain ⟨B, hB1, hB2⟩ : ∃ B, B ≤ U.heap.size ∧ U.heap.size ≤ B := ⟨_, Nat.le_refl _, Nat.le_refl _⟩
        have hPU : P < U.heap.size := World.block_lt_of_cell? U _ r0
        have hwB : w.heap.size ≤ B := Nat.le_trans hbwU.size hB2
        clear hU hbU hbV hbwV
        go_wp2_with (first | (at_builtin; refine wpList_append_own_none rfl (.tmp 56) (.tmp 59) 46 rfl B 61 i0 2 Tryd.underlying46 HI.out.1 (.slice none 0 0) 0 [] rfl (World.ownsRow_nil _ _ _ _) rfl ?_) | (at_builtin; refine wpList_append_own _ rfl (.tmp 61) (.tmp 63) 46 rfl B 61 i0 (.agg #[.int .i64 0, .int .i64 0]) 2 16 Tryd.underlying46 HI.out.1 HI.out.2.1 HI.out.2.2.1 HI.out.2.2.2 rfl (by decide) (.slice none 0 0) 0 [] rfl (World.ownsRow_nil _ _ _ _) ⟨U.heap.size, 0, none⟩ 1 1 (flatE [(x1, x2)]) rfl rfl (one_edge U x1 x2) (flatE_one _) (by unfold maxLen; omega) (by omega) (by first | omega | (simp; omega)) ?_; intro v7 w7 hown7 hgr7 hnil7; have hB7 : Below w.heap.size w w7 := (hbwU.alloc hbwU.size _).grown hgr7 (by have := hbwU.size; simp; omega) (fun m hm => by simp [Value.ownBlock] at hm); simp only [Nat.zero_add, List.nil_append] at hown7; have HO7 : Hid (w7.ownsRow B 61 2 v7 1 (flatE [(x1, x2)])) := hown7; clear hown7) | (at_builtin; refine wpList_append_own_none rfl (.tmp 65) (.tmp 68) 46 rfl B 61 i0 2 Tryd.underlying46 HI.out.1 v7 1 (flatE [(x1, x2)]) rfl HO7.out rfl ?_))
        go_ret
        have hA : addE [] (x1, x2) = [(x1, x2)] := rfl
        exact ⟨_, rfl, by rw [hA]; exact isEdges_own HO7.out rfl, own_roomy HO7.out, hB7⟩
      | some adr =>
        have HS1 : Hid (∀ W', Below w.heap.size w W' → ∀ j u, (flatE l)[j]? = some u → W'.cell? (adr.add j) = some u) := fun W' hW' j u hj => by
          have hpos : 0 < l.length := by
            have := (List.getElem?_eq_some_iff.1 hj).1
            rw [flatE_length] at this; omega
          have hadr := (HO.out W' hW' 0 hpos).1
          simp only [Option.some.injEq] at hadr
          subst hadr
          rw [Addr.add_lit]
          exact EdgesAt.flat (fun i hi => (HO.out W' hW' i hi).2) j u hj
        clear hnn HO
        go_wp2_with fail
        go_quiet (fail)
        obtain ⟨V, hV⟩ : ∃ V, V = (W.drewN n).drewN nq := ⟨_, rfl⟩
        have hbV : Below W.heap.size W V := by rw [hV]; exact below_drewN (below_drewN (Below.refl _ W) _) _
        rw [← hV]
        have q0 : V.cell? ⟨P, 0, none⟩ = some (.int .i64 x1) := (hbV.cell (p := ⟨P, 0, none⟩) hPW).trans p0
        have q1 : V.cell? ⟨P, 1, none⟩ = some (.int .i64 x2) := (hbV.cell (p := ⟨P, 1, none⟩) hPW).trans p1
        have hbwV : Below w.heap.size w V := hbW.trans (hbV.mono hbW.size)
        clear hV
        go_wp2_with fail
        go_quiet (fail)
        obtain ⟨U, hU⟩ : ∃ U, U = V.drewN nq := ⟨_, rfl⟩
        have hbU : Below V.heap.size V U := by rw [hU]; exact below_drewN (Below.refl _ V) _
        rw [← hU]
        have r0 : U.cell? ⟨P, 0, none⟩ = some (.int .i64 x1) := (hbU.cell (p := ⟨P, 0, none⟩) (World.block_lt_of_cell? V _ q0)).trans q0
        have r1 : U.cell? ⟨P, 1, none⟩ = some (.int .i64 x2) := (hbU.cell (p := ⟨P, 1, none⟩) (World.block_lt_of_cell? V _ q1)).trans q1
        have hbwU : Below w.heap.size w U := hbwV.trans (hbU.mono hbwV.size)
        obtain ⟨B, hB1, hB2⟩ : ∃ B, B ≤ U.heap.size ∧ U.heap.size ≤ B := ⟨_, Nat.le_refl _, Nat.le_refl _⟩
        have hPU : P < U.heap.size := World.block_lt_of_cell? U _ r0
        have hwB : w.heap.size ≤ B := Nat.le_trans hbwU.size hB2
        clear hU hbU hbV hbwV
        by_cases hcl : cap = l.length
        all_goals
          go_wp2_with (first | (at_builtin; refine wpList_append_own _ rfl (.tmp 56) (.tmp 59) 46 rfl B 61 i0 (.agg #[.int .i64 0, .int .i64 0]) 2 16 Tryd.underlying46 HI.out.1 HI.out.2.1 HI.out.2.2.1 HI.out.2.2.2 rfl (by decide) (.slice none 0 0) 0 [] rfl (World.ownsRow_nil _ _ _ _) adr l.length _ (flatE l) rfl (flatE_length l) (HS1.out U hbwU) (flatE_one _) (by unfold maxLen; omega) (by omega) (by first | omega | (simp; omega)) ?_; intro v6 w6 hown6 hgr6 hnil6; simp only [Nat.zero_add, List.nil_append] at hown6; have s0 := hgr6.cell r0 (by simp [Value.ownBlock]); have s1 := hgr6.cell r1 (by simp [Value.ownBlock]); have hB6 : Below w.heap.size w w6 := hbwU.grown hgr6 hbwU.size (fun m hm => by simp [Value.ownBlock] at hm); have hs6 := hgr6.size; have HO6 : Hid (w6.ownsRow B 61 2 v6 l.length (flatE l)) := hown6; clear hown6) | (at_builtin; refine wpList_append_own _ rfl (.tmp 61) (.tmp 63) 46 rfl B 61 i0 (.agg #[.int .i64 0, .int .i64 0]) 2 16 Tryd.underlying46 HI.out.1 HI.out.2.1 HI.out.2.2.1 HI.out.2.2.2 rfl (by decide) v6 l.length (flatE l) rfl (HO6.out.alloc _) ⟨w6.heap.size, 0, none⟩ 1 1 (flatE [(x1, x2)]) rfl rfl (one_edge w6 x1 x2) (flatE_one _) (by unfold maxLen; omega) (by omega) (by first | omega | (simp; omega)) ?_; intro v7 w7 hown7 hgr7 hnil7; have hB7 : Below w.heap.size w w7 := (hB6.alloc (by omega) _).grown hgr7 (by simp; omega) (fun m hm => by have := (HO6.out.lt m hm).1; omega); have hs7 := hgr7.size; simp at hs7; have HO7 : Hid (w7.ownsRow B 61 2 v7 (l.length + 1) (flatE l ++ flatE [(x1, x2)])) := hown7; clear hown7) | (at_builtin; refine wpList_append_own _ rfl (.tmp 65) (.tmp 68) 46 rfl B 61 i0 (.agg #[.int .i64 0, .int .i64 0]) 2 16 Tryd.underlying46 HI.out.1 HI.out.2.1 HI.out.2.2.1 HI.out.2.2.2 rfl (by decide) v7 (l.length + 1) (flatE l ++ flatE [(x1, x2)]) rfl HO7.out _ 0 _ [] rfl rfl (fun j u hj => by simp at hj) (fun u hu => by simp at hu) (by unfold maxLen; omega) (by omega) (by omega) ?_; intro v8 w8 hown8 hgr8 hnil8; simp only [Nat.add_zero, List.append_nil] at hown8; have hB8 : Below w.heap.size w w8 := hB7.grown hgr8 (by omega) (fun m hm => by have := (HO7.out.lt m hm).1; omega); have HO8 : Hid (w8.ownsRow B 61 2 v8 (l.length + 1) (flatE l ++ flatE [(x1, x2)])) := hown8; clear hown8))
          go_ret
          exact ⟨_, rfl, by rw [HAE.out]; exact isEdges_own (n := l.length + 1) (by rw [flatE_append]; exact HO8.out) (by simp), own_roomy HO8.out, hB8⟩
end Go.Proofs.YtmjjiehnjghndaaDoor
