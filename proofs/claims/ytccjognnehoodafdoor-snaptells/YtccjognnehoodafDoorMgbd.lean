/-
  PROVED HERE: laneref1.Add puts an edge into some that rise, once. Old memory stays as it was.
  Conditions: none.
  PROVED HERE: laneref2.Anti answers the edges that the plain antiE tells, of any short list of deals of a run. Old memory stays as it was.
  Conditions: the lists are short, and no deal stands twice.
-/
import Derived.Test.YtccjognnehoodafDoorMgal
import Derived.Test.YtccjognnehoodafDoorMgbb
import Derived.Laws.AppendOwnNone
import Derived.Test.YtccjognnehoodafDoorMgbc
import Derived.Deep.RegionHeld3
namespace Go.Proofs.YtccjognnehoodafDoor
open Go.RowKit

/-- A slice of no more than its room. -/
def Roomy (v : Value) : Prop := ∃ ad n c, v = .slice ad n c ∧ n ≤ c
theorem own_roomy {w : World} {base e s n : Nat} {v : Value} {xs : List Value} (h : w.ownsRow base e s v n xs) : Roomy v := by
  obtain ⟨_, ⟨hv, hd⟩ | ⟨g, cap, cur, hv, hb, hg, hn, _⟩⟩ := h
  · exact ⟨none, 0, 0, hv, Nat.le_refl _⟩
  · exact ⟨_, _, _, hv, hn⟩

theorem flatE_split (l : List Edge2) (k : Nat) : flatE l = flatE (l.take k) ++ flatE (l.drop k) := by rw [← flatE_append, List.take_append_drop]
theorem flatE_take (l : List Edge2) (k j : Nat) (u : Value) (h : (flatE (l.take k))[j]? = some u) : (flatE l)[j]? = some u := by
  rw [flatE_split l k, List.getElem?_append_left (List.getElem?_eq_some_iff.1 h).1]
  exact h
theorem flatE_drop (l : List Edge2) (k j : Nat) (u : Value) (h : (flatE (l.drop k))[j]? = some u) : (flatE l)[k * 2 + j]? = some u := by
  have hlt := (List.getElem?_eq_some_iff.1 h).1
  rw [flatE_length, List.length_drop] at hlt
  have hl : (flatE (l.take k)).length = k * 2 := by rw [flatE_length, List.length_take, Nat.min_eq_left (by omega)]
  rw [flatE_split l k, List.getElem?_append_right (by omega), hl, Nat.add_sub_cancel_left]
  exact h
set_option maxHeartbeats 8000000 in
set_option maxRecDepth 100000 in
theorem refAdd_any (l : List Edge2) (x1 x2 : Int) (v : Value) (w : World) (hI : IsEdges w v l) (hr : Roomy v) (hl : l.length ≤ 2000) :
    Calls Tryd.prog 10 #[v, .agg #[.int .i64 x1, .int .i64 x2]] w fun e w' => ∃ v', e = .returned v' ∧ IsEdges w' v' (addE l (x1, x2)) ∧ Roomy v' ∧ Below w.heap.size w w' := by
  have HR : Hid (Roomy v) := hr
  have HIv : Hid (IsEdges w v l) := hI
  obtain ⟨ad, b, off, cap, rfl, ha, hnn, hbB, hops⟩ := hI
  have hcap : l.length ≤ cap := by
    obtain ⟨_, _, _, he, hle⟩ := hr
    simp only [Value.slice.injEq] at he
    omega
  clear hr
  have HO : Hid (∀ W, Below w.heap.size w W → ∀ k, k < l.length → ad = some ⟨b, off, none⟩ ∧ W.cell? ⟨b, off + k * 2, none⟩ = some (.int .i64 (l.getD k (0, 0)).1) ∧ W.cell? ⟨b, off + k * 2 + 1, none⟩ = some (.int .i64 (l.getD k (0, 0)).2)) := fun W hW k hk => ⟨ha (by omega), (hops.below hW hbB) k hk⟩
  obtain ⟨P, hP⟩ : ∃ P, P = w.heap.size := ⟨_, rfl⟩
  obtain ⟨W, hW⟩ : ∃ W, W = w.alloc (.cells #[.int .i64 x1, .int .i64 x2] 42) := ⟨_, rfl⟩
  have p0 : W.cell? ⟨P, 0, none⟩ = some (.int .i64 x1) := by rw [hW, hP]; simp
  have p1 : W.cell? ⟨P, 1, none⟩ = some (.int .i64 x2) := by rw [hW, hP]; simp
  have hbW : Below w.heap.size w W := by rw [hW]; exact (Below.refl _ w).alloc (Nat.le_refl _) _
  have hPW : P < W.heap.size := World.block_lt_of_cell? W _ p0
  have HW : Hid (P = w.heap.size ∧ W = w.alloc (.cells #[.int .i64 x1, .int .i64 x2] 42)) := ⟨hP, hW⟩
  clear hP hW ha hbB hops
  obtain ⟨i0, hi, hz0, hs0, hy0⟩ := info_parts infoEdge
  have HI : Hid (Tryd.prog.info? 42 = some i0 ∧ i0.zero = some (.agg #[.int .i64 0, .int .i64 0]) ∧ i0.size = 2 ∧ i0.bytes = 16) := ⟨hi, hz0, hs0, hy0⟩
  clear hi hz0 hs0 hy0
  go_enter Tryd.func10, Tryd.ntmps10
  go_wp2_with fail
  rw [← HW.out.2, ← HW.out.1]
  go_loopw [5] (fun v5 wr => ∃ (k n : Nat), k ≤ l.length ∧ v5 = .int .i64 k ∧ (∀ j, j < k → ltB (l.getD j (0, 0)) (x1, x2) = true) ∧ wr = W.drewN n) (fun v5 _ => l.length - (intOf v5).toNat)
  case atStart => exact ⟨0, 0, Nat.zero_le _, rfl, fun j hj => absurd hj (by omega), rfl⟩
  case round =>
    obtain ⟨k, n, hk, rfl, hlow, hwr⟩ := hrel
    have HLOW : Hid (∀ j, j < k → ltB (l.getD j (0, 0)) (x1, x2) = true) := hlow
    clear hlow
    subst hwr
    by_cases hlt : k < l.length
    · obtain ⟨rfl, c0, c1⟩ := HO.out W hbW k hlt
      obtain ⟨⟨t, a⟩, ho⟩ : ∃ o : Edge2, l.getD k (0, 0) = o := ⟨_, rfl⟩
      rw [ho] at c0 c1
      simp only at c0 c1
      have hbl : b < W.heap.size := World.block_lt_of_cell? W _ c0
      have HK : Hid (l.getD k (0, 0) = (t, a)) := ho
      clear ho
      have hlti : (k : Int) < (l.length : Int) := by omega
      by_cases h1 : t < x1
      · have HL : Hid (ltB (t, a) (x1, x2) = true) := by show ltB (t, a) (x1, x2) = true; rw [ltB_iff]; exact .inl h1
        go_wp2_with fail
        go_quiet (fail)
        go_wp2
        go_roundw
        case rel => exact ⟨k + 1, n + nq, by omega, by go_num, fun j hj => (by rcases Nat.lt_or_ge j k with h | h; exact HLOW.out j h; rw [show j = k by omega, HK.out]; exact HL.out), by simp⟩
        case measure => simp [intOf]; omega
      · have h1' : decide (t < x1) = false := by simpa using h1
        by_cases h2 : t = x1
        · have h2' : (t == x1) = true := by simpa using h2
          by_cases h3 : a < x2
          · have HL : Hid (ltB (t, a) (x1, x2) = true) := by show ltB (t, a) (x1, x2) = true; rw [ltB_iff]; exact .inr ⟨h2, h3⟩
            clear h2
            go_wp2_with fail
            go_quiet (fail)
            go_wp2
            go_roundw
            case rel => exact ⟨k + 1, n + nq, by omega, by go_num, fun j hj => (by rcases Nat.lt_or_ge j k with h | h; exact HLOW.out j h; rw [show j = k by omega, HK.out]; exact HL.out), by simp⟩
            case measure => simp [intOf]; omega
          · have h3' : decide (a < x2) = false := by simpa using h3
            have HLD : Hid (leadE l (x1, x2) = k) := leadE_eq l (x1, x2) k hk HLOW.out (fun _ => by rw [HK.out]; cases hb : ltB (t, a) (x1, x2) with | false => rfl | true => (rw [ltB_iff] at hb; simp only at hb; omega))
            by_cases h4 : a = x2
            · have h4' : (a == x2) = true := by simpa using h4
              have HEQ : Hid (addE l (x1, x2) = l) := addE_there l (x1, x2) (by rw [HLD.out]; exact hlt) (by rw [HLD.out, HK.out, h2, h4])
              clear h1 h2 h3 h4
              go_wp2_with fail
              go_quiet (fail)
              obtain ⟨V, hV⟩ : ∃ V, V = (W.drewN n).drewN nq := ⟨_, rfl⟩
              have hbV : Below W.heap.size W V := by rw [hV]; exact below_drewN (below_drewN (Below.refl _ W) _) _
              rw [← hV]
              have q0 : V.cell? ⟨P, 0, none⟩ = some (.int .i64 x1) := (hbV.cell (p := ⟨P, 0, none⟩) hPW).trans p0
              have q1 : V.cell? ⟨P, 1, none⟩ = some (.int .i64 x2) := (hbV.cell (p := ⟨P, 1, none⟩) hPW).trans p1
              have hbwV : Below w.heap.size w V := hbW.trans (hbV.mono hbW.size)
              clear hV
              have k0 : V.cell? ⟨b, off + k * 2, none⟩ = some (.int .i64 t) := (hbV.cell (p := ⟨b, off + k * 2, none⟩) hbl).trans c0
              have k1 : V.cell? ⟨b, off + k * 2 + 1, none⟩ = some (.int .i64 a) := (hbV.cell (p := ⟨b, off + k * 2 + 1, none⟩) hbl).trans c1
              clear c0 c1 p0 p1
              go_wp2_with fail
              go_quiet (fail)
              go_wp2
              go_ret
              exact ⟨_, rfl, by rw [HEQ.out]; exact HIv.out.below (below_drewN hbwV _) (Nat.le_refl _), HR.out, below_drewN hbwV _⟩
            · have h4' : (a == x2) = false := by simpa using h4
              have HNE : Hid (k < l.length → l.getD k (0, 0) ≠ (x1, x2)) := fun _ => by rw [HK.out]; intro he; injection he with _ he2; exact h4 he2
              clear h1 h2 h3 h4
              go_wp2_with fail
              go_quiet (fail)
              obtain ⟨V, hV⟩ : ∃ V, V = (W.drewN n).drewN nq := ⟨_, rfl⟩
              have hbV : Below W.heap.size W V := by rw [hV]; exact below_drewN (below_drewN (Below.refl _ W) _) _
              rw [← hV]
              have q0 : V.cell? ⟨P, 0, none⟩ = some (.int .i64 x1) := (hbV.cell (p := ⟨P, 0, none⟩) hPW).trans p0
              have q1 : V.cell? ⟨P, 1, none⟩ = some (.int .i64 x2) := (hbV.cell (p := ⟨P, 1, none⟩) hPW).trans p1
              have hbwV : Below w.heap.size w V := hbW.trans (hbV.mono hbW.size)
              clear hV
              have k0 : V.cell? ⟨b, off + k * 2, none⟩ = some (.int .i64 t) := (hbV.cell (p := ⟨b, off + k * 2, none⟩) hbl).trans c0
              have k1 : V.cell? ⟨b, off + k * 2 + 1, none⟩ = some (.int .i64 a) := (hbV.cell (p := ⟨b, off + k * 2 + 1, none⟩) hbl).trans c1
              clear c0 c1 p0 p1
              go_wp2_with fail
              go_quiet (fail)
              obtain ⟨U, hU⟩ : ∃ U, U = V.drewN nq := ⟨_, rfl⟩
              have hbU : Below V.heap.size V U := by rw [hU]; exact below_drewN (Below.refl _ V) _
              rw [← hU]
              have r0 : U.cell? ⟨P, 0, none⟩ = some (.int .i64 x1) := (hbU.cell (p := ⟨P, 0, none⟩) (World.block_lt_of_cell? V _ q0)).trans q0
              have r1 : U.cell? ⟨P, 1, none⟩ = some (.int .i64 x2) := (hbU.cell (p := ⟨P, 1, none⟩) (World.block_lt_of_cell? V _ q1)).trans q1
              have hbwU : Below w.heap.size w U := hbwV.trans (hbU.mono hbwV.size)
              obtain ⟨B, hB1, hB2⟩ : ∃ B, B ≤ U.heap.size ∧ U.heap.size ≤ B := ⟨_, Nat.le_refl _, Nat.le_refl _⟩
              have hPU : P < U.heap.size := World.block_lt_of_cell? U _ r0
              have hwB : w.heap.size ≤ B := Nat.le_trans hbwU.size hB2
              clear hU hbU hbV hbwV
              have HSRC : Hid (∀ W', Below w.heap.size w W' → ∀ j u, (flatE l)[j]? = some u → W'.cell? ⟨b, off + j, none⟩ = some u) := fun W' hW' => EdgesAt.flat (fun i hi => (HO.out W' hW' i hi).2)
              have HS1 : Hid (∀ W', Below w.heap.size w W' → ∀ j u, (flatE (l.take k))[j]? = some u → W'.cell? ((⟨b, off, none⟩ : Addr).add j) = some u) := fun W' hW' j u hj => by rw [Addr.add_lit]; exact HSRC.out W' hW' j u (flatE_take l k j u hj)
              have HS2 : Hid (∀ W', Below w.heap.size w W' → ∀ j u, (flatE (l.drop k))[j]? = some u → W'.cell? ((⟨b, off + k * 2, none⟩ : Addr).add j) = some u) := fun W' hW' j u hj => by rw [Addr.add_lit, Nat.add_assoc]; exact HSRC.out W' hW' _ u (flatE_drop l k j u hj)
              have hl1 : (flatE (l.take k)).length = k * 2 := by rw [flatE_length, List.length_take, Nat.min_eq_left (by omega)]
              have hl2 : (flatE (l.drop k)).length = (l.length - k) * 2 := by rw [flatE_length, List.length_drop]
              have HL : Hid ((flatE (l.take k)).length = k * 2 ∧ (flatE (l.drop k)).length = (l.length - k) * 2) := ⟨hl1, hl2⟩
              have hcm : cap ≤ maxLen → True := fun _ => trivial
              clear hl1 hl2 hcm
              go_wp2_with (first | (at_builtin; refine wpList_append_own _ rfl (.tmp 56) (.tmp 59) 34 rfl B 42 i0 (.agg #[.int .i64 0, .int .i64 0]) 2 16 Tryd.underlying34 HI.out.1 HI.out.2.1 HI.out.2.2.1 HI.out.2.2.2 rfl (by decide) (.slice none 0 0) 0 [] rfl (World.ownsRow_nil _ _ _ _) ⟨b, off, none⟩ k cap (flatE (l.take k)) rfl HL.out.1 (HS1.out U hbwU) (flatE_one _) (by unfold maxLen; omega) (by omega) (by first | omega | (simp; omega)) ?_; intro v6 w6 hown6 hgr6 hnil6; simp only [Nat.zero_add, List.nil_append] at hown6; have s0 := hgr6.cell r0 (by simp [Value.ownBlock]); have s1 := hgr6.cell r1 (by simp [Value.ownBlock]); have hB6 : Below w.heap.size w w6 := hbwU.grown hgr6 hbwU.size (fun m hm => by simp [Value.ownBlock] at hm); have hs6 := hgr6.size; have HO6 : Hid (w6.ownsRow B 42 2 v6 k (flatE (l.take k))) := hown6; clear hown6) | (at_builtin; refine wpList_append_own _ rfl (.tmp 61) (.tmp 63) 34 rfl B 42 i0 (.agg #[.int .i64 0, .int .i64 0]) 2 16 Tryd.underlying34 HI.out.1 HI.out.2.1 HI.out.2.2.1 HI.out.2.2.2 rfl (by decide) v6 k (flatE (l.take k)) rfl (HO6.out.alloc _) ⟨w6.heap.size, 0, none⟩ 1 1 (flatE [(x1, x2)]) rfl rfl (one_edge w6 x1 x2) (flatE_one _) (by unfold maxLen; omega) (by omega) (by first | omega | (simp; omega)) ?_; intro v7 w7 hown7 hgr7 hnil7; have hB7 : Below w.heap.size w w7 := (hB6.alloc (by omega) _).grown hgr7 (by simp; omega) (fun m hm => by have := (HO6.out.lt m hm).1; omega); have hs7 := hgr7.size; simp at hs7; have HO7 : Hid (w7.ownsRow B 42 2 v7 (k + 1) (flatE (l.take k) ++ flatE [(x1, x2)])) := hown7; clear hown7) | (at_builtin; refine wpList_append_own _ rfl (.tmp 65) (.tmp 68) 34 rfl B 42 i0 (.agg #[.int .i64 0, .int .i64 0]) 2 16 Tryd.underlying34 HI.out.1 HI.out.2.1 HI.out.2.2.1 HI.out.2.2.2 rfl (by decide) v7 (k + 1) (flatE (l.take k) ++ flatE [(x1, x2)]) rfl HO7.out ⟨b, off + k * 2, none⟩ (l.length - k) (cap - k) (flatE (l.drop k)) rfl HL.out.2 (HS2.out w7 hB7) (flatE_one _) (by unfold maxLen; omega) (by omega) (by first | omega | (simp; omega)) ?_; intro v8 w8 hown8' hgr8 hnil8; have hB8 : Below w.heap.size w w8 := hB7.grown hgr8 (by omega) (fun m hm => by have := (HO7.out.lt m hm).1; omega)))
              have hown8 : w8.ownsRow B 42 2 v8 (k + 1 + (l.length - k)) (flatE (addE l (x1, x2))) := by
                rw [addE_new l (x1, x2) (by rw [HLD.out]; exact HNE.out), HLD.out, flatE_append, flatE_append]
                simpa using hown8'
              go_ret
              refine ⟨_, rfl, isEdges_own hown8 ?_, own_roomy hown8, ?_⟩
              · rw [addE_new l (x1, x2) (by rw [HLD.out]; exact HNE.out), HLD.out]
                simp [List.length_take, List.length_drop, Nat.min_eq_left hk]; omega
              · exact hB8
        · have h2' : (t == x1) = false := by simpa using h2
          have HLD : Hid (leadE l (x1, x2) = k) := leadE_eq l (x1, x2) k hk HLOW.out (fun _ => by rw [HK.out]; cases hb : ltB (t, a) (x1, x2) with | false => rfl | true => (rw [ltB_iff] at hb; simp only at hb; omega))
          have HNE : Hid (k < l.length → l.getD k (0, 0) ≠ (x1, x2)) := fun _ => by rw [HK.out]; intro he; injection he with he1 _; exact h2 he1
          clear h1 h2
          go_wp2_with fail
          go_quiet (fail)
          obtain ⟨V, hV⟩ : ∃ V, V = (W.drewN n).drewN nq := ⟨_, rfl⟩
          have hbV : Below W.heap.size W V := by rw [hV]; exact below_drewN (below_drewN (Below.refl _ W) _) _
          rw [← hV]
          have q0 : V.cell? ⟨P, 0, none⟩ = some (.int .i64 x1) := (hbV.cell (p := ⟨P, 0, none⟩) hPW).trans p0
          have q1 : V.cell? ⟨P, 1, none⟩ = some (.int .i64 x2) := (hbV.cell (p := ⟨P, 1, none⟩) hPW).trans p1
          have hbwV : Below w.heap.size w V := hbW.trans (hbV.mono hbW.size)
          clear hV
          have k0 : V.cell? ⟨b, off + k * 2, none⟩ = some (.int .i64 t) := (hbV.cell (p := ⟨b, off + k * 2, none⟩) hbl).trans c0
          have k1 : V.cell? ⟨b, off + k * 2 + 1, none⟩ = some (.int .i64 a) := (hbV.cell (p := ⟨b, off + k * 2 + 1, none⟩) hbl).trans c1
          clear c0 c1 p0 p1
          go_wp2_with fail
          go_quiet (fail)
          obtain ⟨U, hU⟩ : ∃ U, U = V.drewN nq := ⟨_, rfl⟩
          have hbU : Below V.heap.size V U := by rw [hU]; exact below_drewN (Below.refl _ V) _
          rw [← hU]
          have r0 : U.cell? ⟨P, 0, none⟩ = some (.int .i64 x1) := (hbU.cell (p := ⟨P, 0, none⟩) (World.block_lt_of_cell? V _ q0)).trans q0
          have r1 : U.cell? ⟨P, 1, none⟩ = some (.int .i64 x2) := (hbU.cell (p := ⟨P, 1, none⟩) (World.block_lt_of_cell? V _ q1)).trans q1
          have hbwU : Below w.heap.size w U := hbwV.trans (hbU.mono hbwV.size)
          obtain ⟨B, hB1, hB2⟩ : ∃ B, B ≤ U.heap.size ∧ U.heap.size ≤ B := ⟨_, Nat.le_refl _, Nat.le_refl _⟩
          have hPU : P < U.heap.size := World.block_lt_of_cell? U _ r0
          have hwB : w.heap.size ≤ B := Nat.le_trans hbwU.size hB2
          clear hU hbU hbV hbwV
          have HSRC : Hid (∀ W', Below w.heap.size w W' → ∀ j u, (flatE l)[j]? = some u → W'.cell? ⟨b, off + j, none⟩ = some u) := fun W' hW' => EdgesAt.flat (fun i hi => (HO.out W' hW' i hi).2)
          have HS1 : Hid (∀ W', Below w.heap.size w W' → ∀ j u, (flatE (l.take k))[j]? = some u → W'.cell? ((⟨b, off, none⟩ : Addr).add j) = some u) := fun W' hW' j u hj => by rw [Addr.add_lit]; exact HSRC.out W' hW' j u (flatE_take l k j u hj)
          have HS2 : Hid (∀ W', Below w.heap.size w W' → ∀ j u, (flatE (l.drop k))[j]? = some u → W'.cell? ((⟨b, off + k * 2, none⟩ : Addr).add j) = some u) := fun W' hW' j u hj => by rw [Addr.add_lit, Nat.add_assoc]; exact HSRC.out W' hW' _ u (flatE_drop l k j u hj)
          have hl1 : (flatE (l.take k)).length = k * 2 := by rw [flatE_length, List.length_take, Nat.min_eq_left (by omega)]
          have hl2 : (flatE (l.drop k)).length = (l.length - k) * 2 := by rw [flatE_length, List.length_drop]
          have HL : Hid ((flatE (l.take k)).length = k * 2 ∧ (flatE (l.drop k)).length = (l.length - k) * 2) := ⟨hl1, hl2⟩
          have hcm : cap ≤ maxLen → True := fun _ => trivial
          clear hl1 hl2 hcm
          go_wp2_with (first | (at_builtin; refine wpList_append_own _ rfl (.tmp 56) (.tmp 59) 34 rfl B 42 i0 (.agg #[.int .i64 0, .int .i64 0]) 2 16 Tryd.underlying34 HI.out.1 HI.out.2.1 HI.out.2.2.1 HI.out.2.2.2 rfl (by decide) (.slice none 0 0) 0 [] rfl (World.ownsRow_nil _ _ _ _) ⟨b, off, none⟩ k cap (flatE (l.take k)) rfl HL.out.1 (HS1.out U hbwU) (flatE_one _) (by unfold maxLen; omega) (by omega) (by first | omega | (simp; omega)) ?_; intro v6 w6 hown6 hgr6 hnil6; simp only [Nat.zero_add, List.nil_append] at hown6; have s0 := hgr6.cell r0 (by simp [Value.ownBlock]); have s1 := hgr6.cell r1 (by simp [Value.ownBlock]); have hB6 : Below w.heap.size w w6 := hbwU.grown hgr6 hbwU.size (fun m hm => by simp [Value.ownBlock] at hm); have hs6 := hgr6.size; have HO6 : Hid (w6.ownsRow B 42 2 v6 k (flatE (l.take k))) := hown6; clear hown6) | (at_builtin; refine wpList_append_own _ rfl (.tmp 61) (.tmp 63) 34 rfl B 42 i0 (.agg #[.int .i64 0, .int .i64 0]) 2 16 Tryd.underlying34 HI.out.1 HI.out.2.1 HI.out.2.2.1 HI.out.2.2.2 rfl (by decide) v6 k (flatE (l.take k)) rfl (HO6.out.alloc _) ⟨w6.heap.size, 0, none⟩ 1 1 (flatE [(x1, x2)]) rfl rfl (one_edge w6 x1 x2) (flatE_one _) (by unfold maxLen; omega) (by omega) (by first | omega | (simp; omega)) ?_; intro v7 w7 hown7 hgr7 hnil7; have hB7 : Below w.heap.size w w7 := (hB6.alloc (by omega) _).grown hgr7 (by simp; omega) (fun m hm => by have := (HO6.out.lt m hm).1; omega); have hs7 := hgr7.size; simp at hs7; have HO7 : Hid (w7.ownsRow B 42 2 v7 (k + 1) (flatE (l.take k) ++ flatE [(x1, x2)])) := hown7; clear hown7) | (at_builtin; refine wpList_append_own _ rfl (.tmp 65) (.tmp 68) 34 rfl B 42 i0 (.agg #[.int .i64 0, .int .i64 0]) 2 16 Tryd.underlying34 HI.out.1 HI.out.2.1 HI.out.2.2.1 HI.out.2.2.2 rfl (by decide) v7 (k + 1) (flatE (l.take k) ++ flatE [(x1, x2)]) rfl HO7.out ⟨b, off + k * 2, none⟩ (l.length - k) (cap - k) (flatE (l.drop k)) rfl HL.out.2 (HS2.out w7 hB7) (flatE_one _) (by unfold maxLen; omega) (by omega) (by first | omega | (simp; omega)) ?_; intro v8 w8 hown8' hgr8 hnil8; have hB8 : Below w.heap.size w w8 := hB7.grown hgr8 (by omega) (fun m hm => by have := (HO7.out.lt m hm).1; omega)))
          have hown8 : w8.ownsRow B 42 2 v8 (k + 1 + (l.length - k)) (flatE (addE l (x1, x2))) := by
            rw [addE_new l (x1, x2) (by rw [HLD.out]; exact HNE.out), HLD.out, flatE_append, flatE_append]
            simpa using hown8'
          go_ret
          refine ⟨_, rfl, isEdges_own hown8 ?_, own_roomy hown8, ?_⟩
          · rw [addE_new l (x1, x2) (by rw [HLD.out]; exact HNE.out), HLD.out]
            simp [List.length_take, List.length_drop, Nat.min_eq_left hk]; omega
          · exact hB8
    · obtain rfl : k = l.length := by omega
      have HLD : Hid (leadE l (x1, x2) = l.length) := leadE_eq l (x1, x2) l.length hk HLOW.out (fun h => absurd h (by omega))
      have HAE : Hid (addE l (x1, x2) = l ++ [(x1, x2)]) := by
        show addE l (x1, x2) = l ++ [(x1, x2)]
        rw [addE_new l (x1, x2) (by rw [HLD.out]; intro h; omega), HLD.out]; simp
      clear hlt hk HLOW
      cases ad with
      | none =>
        obtain ⟨h0, rfl⟩ := hnn rfl
        obtain rfl : l = [] := List.length_eq_zero_iff.1 h0
        clear h0 hnn hcap
        go_wp2_with fail
        go_quiet (fail)
        obtain ⟨V, hV⟩ : ∃ V, V = (W.drewN n).drewN nq := ⟨_, rfl⟩
        have hbV : Below W.heap.size W V := by rw [hV]; exact below_drewN (below_drewN (Below.refl _ W) _) _
        rw [← hV]
        have q0 : V.cell? ⟨P, 0, none⟩ = some (.int .i64 x1) := (hbV.cell (p := ⟨P, 0, none⟩) hPW).trans p0
        have q1 : V.cell? ⟨P, 1, none⟩ = some (.int .i64 x2) := (hbV.cell (p := ⟨P, 1, none⟩) hPW).trans p1
        have hbwV : Below w.heap.size w V := hbW.trans (hbV.mono hbW.size)
        clear hV
        go_wp2_with fail
        go_quiet (fail)
        obtain ⟨U, hU⟩ : ∃ U, U = V.drewN nq := ⟨_, rfl⟩
        have hbU : Below V.heap.size V U := by rw [hU]; exact below_drewN (Below.refl _ V) _
        rw [← hU]
        have r0 : U.cell? ⟨P, 0, none⟩ = some (.int .i64 x1) := (hbU.cell (p := ⟨P, 0, none⟩) (World.block_lt_of_cell? V _ q0)).trans q0
        have r1 : U.cell? ⟨P, 1, none⟩ = some (.int .i64 x2) := (hbU.cell (p := ⟨P, 1, none⟩) (World.block_lt_of_cell? V _ q1)).trans q1
        have hbwU : Below w.heap.size w U := hbwV.trans (hbU.mono hbwV.size)
        obtain ⟨B, hB1, hB2⟩ : ∃ B, B ≤ U.heap.size ∧ U.heap.size ≤ B := ⟨_, Nat.le_refl _, Nat.le_refl _⟩
        have hPU : P < U.heap.size := World.block_lt_of_cell? U _ r0
        have hwB : w.heap.size ≤ B := Nat.le_trans hbwU.size hB2
        clear hU hbU hbV hbwV
        go_wp2_with (first | (at_builtin; refine wpList_append_own_none rfl (.tmp 56) (.tmp 59) 34 rfl B 42 i0 2 Tryd.underlying34 HI.out.1 (.slice none 0 0) 0 [] rfl (World.ownsRow_nil _ _ _ _) rfl ?_) | (at_builtin; refine wpList_append_own _ rfl (.tmp 61) (.tmp 63) 34 rfl B 42 i0 (.agg #[.int .i64 0, .int .i64 0]) 2 16 Tryd.underlying34 HI.out.1 HI.out.2.1 HI.out.2.2.1 HI.out.2.2.2 rfl (by decide) (.slice none 0 0) 0 [] rfl (World.ownsRow_nil _ _ _ _) ⟨U.heap.size, 0, none⟩ 1 1 (flatE [(x1, x2)]) rfl rfl (one_edge U x1 x2) (flatE_one _) (by unfold maxLen; omega) (by omega) (by first | omega | (simp; omega)) ?_; intro v7 w7 hown7 hgr7 hnil7; have hB7 : Below w.heap.size w w7 := (hbwU.alloc hbwU.size _).grown hgr7 (by have := hbwU.size; simp; omega) (fun m hm => by simp [Value.ownBlock] at hm); simp only [Nat.zero_add, List.nil_append] at hown7; have HO7 : Hid (w7.ownsRow B 42 2 v7 1 (flatE [(x1, x2)])) := hown7; clear hown7) | (at_builtin; refine wpList_append_own_none rfl (.tmp 65) (.tmp 68) 34 rfl B 42 i0 2 Tryd.underlying34 HI.out.1 v7 1 (flatE [(x1, x2)]) rfl HO7.out rfl ?_))
        go_ret
        have hA : addE [] (x1, x2) = [(x1, x2)] := rfl
        exact ⟨_, rfl, by rw [hA]; exact isEdges_own HO7.out rfl, own_roomy HO7.out, hB7⟩
      | some adr =>
        have HS1 : Hid (∀ W', Below w.heap.size w W' → ∀ j u, (flatE l)[j]? = some u → W'.cell? (adr.add j) = some u) := fun W' hW' j u hj => by
          have hpos : 0 < l.length := by
            have := (List.getElem?_eq_some_iff.1 hj).1
            rw [flatE_length] at this; omega
          have hadr := (HO.out W' hW' 0 hpos).1
          simp only [Option.some.injEq] at hadr
          subst hadr
          rw [Addr.add_lit]
          exact EdgesAt.flat (fun i hi => (HO.out W' hW' i hi).2) j u hj
        clear hnn HO
        go_wp2_with fail
        go_quiet (fail)
        obtain ⟨V, hV⟩ : ∃ V, V = (W.drewN n).drewN nq := ⟨_, rfl⟩
        have hbV : Below W.heap.size W V := by rw [hV]; exact below_drewN (below_drewN (Below.refl _ W) _) _
        rw [← hV]
        have q0 : V.cell? ⟨P, 0, none⟩ = some (.int .i64 x1) := (hbV.cell (p := ⟨P, 0, none⟩) hPW).trans p0
        have q1 : V.cell? ⟨P, 1, none⟩ = some (.int .i64 x2) := (hbV.cell (p := ⟨P, 1, none⟩) hPW).trans p1
        have hbwV : Below w.heap.size w V := hbW.trans (hbV.mono hbW.size)
        clear hV
        go_wp2_with fail
        go_quiet (fail)
        obtain ⟨U, hU⟩ : ∃ U, U = V.drewN nq := ⟨_, rfl⟩
        have hbU : Below V.heap.size V U := by rw [hU]; exact below_drewN (Below.refl _ V) _
        rw [← hU]
        have r0 : U.cell? ⟨P, 0, none⟩ = some (.int .i64 x1) := (hbU.cell (p := ⟨P, 0, none⟩) (World.block_lt_of_cell? V _ q0)).trans q0
        have r1 : U.cell? ⟨P, 1, none⟩ = some (.int .i64 x2) := (hbU.cell (p := ⟨P, 1, none⟩) (World.block_lt_of_cell? V _ q1)).trans q1
        have hbwU : Below w.heap.size w U := hbwV.trans (hbU.mono hbwV.size)
        obtain ⟨B, hB1, hB2⟩ : ∃ B, B ≤ U.heap.size ∧ U.heap.size ≤ B := ⟨_, Nat.le_refl _, Nat.le_refl _⟩
        have hPU : P < U.heap.size := World.block_lt_of_cell? U _ r0
        have hwB : w.heap.size ≤ B := Nat.le_trans hbwU.size hB2
        clear hU hbU hbV hbwV
        by_cases hcl : cap = l.length
        all_goals
          go_wp2_with (first | (at_builtin; refine wpList_append_own _ rfl (.tmp 56) (.tmp 59) 34 rfl B 42 i0 (.agg #[.int .i64 0, .int .i64 0]) 2 16 Tryd.underlying34 HI.out.1 HI.out.2.1 HI.out.2.2.1 HI.out.2.2.2 rfl (by decide) (.slice none 0 0) 0 [] rfl (World.ownsRow_nil _ _ _ _) adr l.length _ (flatE l) rfl (flatE_length l) (HS1.out U hbwU) (flatE_one _) (by unfold maxLen; omega) (by omega) (by first | omega | (simp; omega)) ?_; intro v6 w6 hown6 hgr6 hnil6; simp only [Nat.zero_add, List.nil_append] at hown6; have s0 := hgr6.cell r0 (by simp [Value.ownBlock]); have s1 := hgr6.cell r1 (by simp [Value.ownBlock]); have hB6 : Below w.heap.size w w6 := hbwU.grown hgr6 hbwU.size (fun m hm => by simp [Value.ownBlock] at hm); have hs6 := hgr6.size; have HO6 : Hid (w6.ownsRow B 42 2 v6 l.length (flatE l)) := hown6; clear hown6) | (at_builtin; refine wpList_append_own _ rfl (.tmp 61) (.tmp 63) 34 rfl B 42 i0 (.agg #[.int .i64 0, .int .i64 0]) 2 16 Tryd.underlying34 HI.out.1 HI.out.2.1 HI.out.2.2.1 HI.out.2.2.2 rfl (by decide) v6 l.length (flatE l) rfl (HO6.out.alloc _) ⟨w6.heap.size, 0, none⟩ 1 1 (flatE [(x1, x2)]) rfl rfl (one_edge w6 x1 x2) (flatE_one _) (by unfold maxLen; omega) (by omega) (by first | omega | (simp; omega)) ?_; intro v7 w7 hown7 hgr7 hnil7; have hB7 : Below w.heap.size w w7 := (hB6.alloc (by omega) _).grown hgr7 (by simp; omega) (fun m hm => by have := (HO6.out.lt m hm).1; omega); have hs7 := hgr7.size; simp at hs7; have HO7 : Hid (w7.ownsRow B 42 2 v7 (l.length + 1) (flatE l ++ flatE [(x1, x2)])) := hown7; clear hown7) | (at_builtin; refine wpList_append_own _ rfl (.tmp 65) (.tmp 68) 34 rfl B 42 i0 (.agg #[.int .i64 0, .int .i64 0]) 2 16 Tryd.underlying34 HI.out.1 HI.out.2.1 HI.out.2.2.1 HI.out.2.2.2 rfl (by decide) v7 (l.length + 1) (flatE l ++ flatE [(x1, x2)]) rfl HO7.out _ 0 _ [] rfl rfl (fun j u hj => by simp at hj) (fun u hu => by simp at hu) (by unfold maxLen; omega) (by omega) (by omega) ?_; intro v8 w8 hown8 hgr8 hnil8; simp only [Nat.add_zero, List.append_nil] at hown8; have hB8 : Below w.heap.size w w8 := hB7.grown hgr8 (by omega) (fun m hm => by have := (HO7.out.lt m hm).1; omega); have HO8 : Hid (w8.ownsRow B 42 2 v8 (l.length + 1) (flatE l ++ flatE [(x1, x2)])) := hown8; clear hown8))
          go_ret
          exact ⟨_, rfl, by rw [HAE.out]; exact isEdges_own (n := l.length + 1) (by rw [flatE_append]; exact HO8.out) (by simp), own_roomy HO8.out, hB8⟩
end Go.Proofs.YtccjognnehoodafDoor

namespace Go.Proofs.YtccjognnehoodafDoor
open Go.RowKit

theorem hid_a {p : Prop} (h : p) : Hid p := h

theorem addE_len2 (l : List Edge2) (x : Edge2) : (addE l x).length ≤ l.length + 1 := by
  induction l with
  | nil => simp [addE]
  | cons a r ih =>
    unfold addE
    split
    · simp; omega
    · split
      · simp
      · simp
theorem antiW_len (x y : Int) (a : Dl) : ∀ (wr : List Int) (out : List Edge2), (antiW x y a out wr).length ≤ out.length + wr.length := by
  intro wr
  induction wr with
  | nil => intro out; exact Nat.le_refl _
  | cons i r ih =>
    intro out
    have h1 := ih (if readK x a i = true then addE out (x, y) else out)
    have h2 : (if readK x a i = true then addE out (x, y) else out).length ≤ out.length + 1 := by
      split
      · exact addE_len2 _ _
      · omega
    show (antiW x y a (if readK x a i = true then addE out (x, y) else out) r).length ≤ _
    simp only [List.length_cons]
    omega
theorem antiY_len (of : Int → Dl) (x y : Int) (out : List Edge2) (h : (of y).wrote.length ≤ 40) : (antiY of x out y).length ≤ out.length + 40 := by
  unfold antiY
  split
  · omega
  · have := antiW_len x y (of x) (of y).wrote out
    omega
theorem antiYs_len (of : Int → Dl) (x : Int) (h : ∀ y, (of y).wrote.length ≤ 40) : ∀ (ds : List Int) (out : List Edge2), (ds.foldl (antiY of x) out).length ≤ out.length + ds.length * 40 := by
  intro ds
  induction ds with
  | nil => intro out; simp
  | cons y r ih =>
    intro out
    have h1 := ih (antiY of x out y)
    have h2 := antiY_len of x y out (h y)
    simp only [List.foldl_cons, List.length_cons]
    omega
theorem antiXs_len (of : Int → Dl) (es : List Int) (h : ∀ y, (of y).wrote.length ≤ 40) (hl : es.length ≤ 7) : ∀ (ds : List Int) (out : List Edge2), (ds.foldl (antiX of es) out).length ≤ out.length + ds.length * 280 := by
  intro ds
  induction ds with
  | nil => intro out; simp
  | cons x r ih =>
    intro out
    have h1 := ih (antiX of es out x)
    have h2 : (antiX of es out x).length ≤ out.length + es.length * 40 := antiYs_len of x h es out
    simp only [List.foldl_cons, List.length_cons]
    omega
theorem takeI_fold {α : Type} (f : α → Int → α) (a : α) {L : List Int} {k : Nat} (hk : k < L.length) : (L.take (k + 1)).foldl f a = f ((L.take k).foldl f a) (L.getD k 0) := by
  rw [List.take_succ_eq_append_getElem hk, List.foldl_append]
  simp [List.getD, List.getElem?_eq_getElem hk]
theorem nodup_getD {ds : List Int} (h : ds.Nodup) {i k : Nat} (hi : i < ds.length) (hk : k < ds.length) (e : ds.getD i 0 = ds.getD k 0) : i = k := by
  have h1 : ds[i] = ds[k] := by simpa [List.getD, hi, hk] using e
  rcases Nat.lt_trichotomy i k with h2 | h2 | h2
  · exact absurd h1 (List.pairwise_iff_getElem.1 h i k hi hk h2)
  · exact h2
  · exact absurd h1.symm (List.pairwise_iff_getElem.1 h k i hk hi h2)
/-- The cells of a deal of a run in a row of them, in whatever world has come since. -/
def DealAt (W : World) (b off i : Nat) (t : Int) (r : Dl) (sv wv : Value) : Prop :=
  W.cell? ⟨b, off + i * 5, none⟩ = some (.int .i64 t) ∧ W.cell? ⟨b, off + i * 5 + 1, none⟩ = some (.int .i64 r.began) ∧ W.cell? ⟨b, off + i * 5 + 2, none⟩ = some (.int .i64 r.ended) ∧ W.cell? ⟨b, off + i * 5 + 3, none⟩ = some sv ∧ W.cell? ⟨b, off + i * 5 + 4, none⟩ = some wv
set_option maxHeartbeats 16000000 in
set_option maxRecDepth 100000 in
theorem anti_any (ds : List Int) (of : Int → Dl) (v : Value) (w : World) (hI : IsDeals w v ds of) (hl : ds.length ≤ 7) (hnd : ds.Nodup) (hwr : ∀ y, (of y).wrote.length ≤ 40) :
    Calls Tryd.prog 25 #[v] w fun e w' => ∃ v', e = .returned v' ∧ IsEdges w' v' (antiE of ds) ∧ Below w.heap.size w w' := by
  obtain ⟨ad, b, off, cap, rfl, ha, hbB, hc⟩ := hI
  have HC : Hid (∀ i, i < ds.length → ad = some ⟨b, off, none⟩ ∧ b < w.heap.size ∧ ∃ sv wv, DlIs w (of (ds.getD i 0)) sv wv ∧ ∀ W, Below w.heap.size w W → DealAt W b off i (ds.getD i 0) (of (ds.getD i 0)) sv wv) := fun i hi => by
    have hb : b < w.heap.size := by
      rcases hbB with h | h
      · exact h
      · subst h; simp at hi
    obtain ⟨sv, wv, hd, c⟩ := hc i hi
    refine ⟨ha (by omega), hb, sv, wv, hd, fun W hW => ?_⟩
    unfold DealAt
    rw [hW.cell (p := ⟨b, off + i * 5, none⟩) hb, hW.cell (p := ⟨b, off + i * 5 + 1, none⟩) hb, hW.cell (p := ⟨b, off + i * 5 + 2, none⟩) hb, hW.cell (p := ⟨b, off + i * 5 + 3, none⟩) hb, hW.cell (p := ⟨b, off + i * 5 + 4, none⟩) hb]
    exact c
  have HND := hid_a hnd
  have HWR := hid_a hwr
  clear ha hbB hc hnd hwr
  go_enter Tryd.func25, Tryd.ntmps25
  go_wp2_with fail
  go_loopw [3, 4] (fun v3 v4 wr => ∃ i : Nat, i ≤ ds.length ∧ v4 = .int .i64 i ∧ IsEdges wr v3 ((ds.take i).foldl (antiX of ds) []) ∧ Roomy v3 ∧ Below w.heap.size w wr) (fun _ v4 _ => ds.length - (intOf v4).toNat)
  case atStart => exact ⟨0, Nat.zero_le _, rfl, isEdges_nil _, ⟨none, 0, 0, rfl, Nat.le_refl _⟩, Below.refl _ _⟩
  case round =>
    obtain ⟨i, hi, rfl, hed, hro, hbel⟩ := hrel
    have hEl := antiXs_len of ds HWR.out hl (ds.take i) []
    have htl : (ds.take i).length ≤ i := List.length_take_le _ _
    simp only [List.length_nil, Nat.zero_add] at hEl
    obtain ⟨E, hE⟩ : ∃ E, (ds.take i).foldl (antiX of ds) [] = E := ⟨_, rfl⟩
    have HE := hid_a hE
    rw [hE] at hed hEl
    have HED := hid_a (And.intro hed (And.intro hro hbel))
    clear hed hro hbel hE
    by_cases hlt : i < ds.length
    · have hlt' : (i : Int) < (ds.length : Int) := by omega
      have hi0 : (0 : Int) ≤ (i : Int) := by omega
      have hin : ¬ (i : Int) < 0 := by omega
      have HNX : Hid ((ds.take (i + 1)).foldl (antiX of ds) [] = antiX of ds E (ds.getD i 0)) := by show _ = _; rw [takeI_fold _ _ hlt, HE.out]
      have hEl2 : E.length ≤ i * 280 := by omega
      obtain ⟨hadr, hbw, svi, wvi, hdi, hci⟩ := HC.out i hlt
      subst hadr
      have HDI := hid_a hdi
      have HCI := hid_a hci
      obtain ⟨x, hx⟩ : ∃ x, ds.getD i 0 = x := ⟨_, rfl⟩
      have HX := hid_a hx
      rw [hx] at HNX HDI HCI
      clear hdi hci hx hEl htl
      go_wp2_with fail
      go_loopw [3, 5] (fun v3 v5 wr => ∃ k : Nat, k ≤ ds.length ∧ v5 = .int .i64 k ∧ IsEdges wr v3 ((ds.take k).foldl (antiY of x) E) ∧ Roomy v3 ∧ Below w.heap.size w wr) (fun _ v5 _ => ds.length - (intOf v5).toNat)
      case atStart => exact ⟨0, Nat.zero_le _, rfl, HED.out.1, HED.out.2.1, HED.out.2.2⟩
      case round =>
        obtain ⟨k, hk, rfl, hed, hro, hbel⟩ := hrel
        have hFl := antiYs_len of x HWR.out (ds.take k) E
        have htk : (ds.take k).length ≤ k := List.length_take_le _ _
        obtain ⟨F, hF⟩ : ∃ F, (ds.take k).foldl (antiY of x) E = F := ⟨_, rfl⟩
        have HF := hid_a hF
        rw [hF] at hed hFl
        have HFD := hid_a (And.intro hed (And.intro hro hbel))
        have HBE := hid_a hbel
        clear hed hro hF
        by_cases hltk : k < ds.length
        · have hltk' : (k : Int) < (ds.length : Int) := by omega
          have hk0 : (0 : Int) ≤ (k : Int) := by omega
          have hkn : ¬ (k : Int) < 0 := by omega
          have hFl2 : F.length ≤ 1960 - 40 := by omega
          obtain ⟨-, -, svk, wvk, hdk, hck⟩ := HC.out k hltk
          have HDK := hid_a hdk
          have HCK := hid_a hck
          obtain ⟨y, hy⟩ : ∃ y, ds.getD k 0 = y := ⟨_, rfl⟩
          have HNY : Hid ((ds.take (k + 1)).foldl (antiY of x) E = antiY of x F y) := by show _ = _; rw [takeI_fold _ _ hltk, HF.out, hy]
          have HIK : Hid ((i = k) ↔ x = y) := by
            show _ ↔ _
            rw [← hy, ← HX.out]
            exact ⟨fun e => by rw [e], fun e => nodup_getD HND.out hlt hltk e⟩
          rw [hy] at HDK HCK
          have HWK := hid_a (HWR.out y)
          clear hdk hck hy hFl htk
          obtain ⟨ai, bi, hai⟩ : ∃ a b : Dl, of x = a ∧ of y = b := ⟨_, _, rfl, rfl⟩
          rw [hai.1] at HDI HCI
          rw [hai.2] at HDK HCK HWK
          have HAI := hid_a hai
          clear hai
          have HCL : Hid (∀ W, Below w.heap.size w W → Calls Tryd.prog 9 #[.agg #[.int .i64 x, .int .i64 ai.began, .int .i64 ai.ended, svi, wvi], .agg #[.int .i64 y, .int .i64 bi.began, .int .i64 bi.ended, svk, wvk]] W fun e w' => e = .returned (.bool (onceK ai bi)) ∧ Below W.heap.size W w' ∧ (DealAt w' b off i x ai svi wvi ∧ DealAt w' b off k y bi svk wvk)) := fun W hW => by
            refine (once_any x y ai bi svi wvi svk wvk W).mono ?_
            rintro e w' ⟨he, hb⟩
            have h2 := hW.trans (hb.mono hW.size)
            exact ⟨he, hb, HCI.out w' h2, HCK.out w' h2⟩
          have HK8 : Hid (DealAt wr.drew b off i x ai svi wvi ∧ DealAt wr.drew b off k y bi svk wvk) := ⟨HCI.out _ HBE.out.drew, HCK.out _ HBE.out.drew⟩
          have hbwr : b < wr.heap.size := Nat.lt_of_lt_of_le hbw HBE.out.size
          clear hbel
          go_wp2_with fail
          go_region_held3 (fun w' => (w'.cell? ⟨b, off + i * 5, none⟩ = some (.int .i64 x) ∧ w'.cell? ⟨b, off + i * 5 + 1, none⟩ = some (.int .i64 ai.began) ∧ w'.cell? ⟨b, off + i * 5 + 2, none⟩ = some (.int .i64 ai.ended) ∧ w'.cell? ⟨b, off + i * 5 + 3, none⟩ = some svi ∧ w'.cell? ⟨b, off + i * 5 + 4, none⟩ = some wvi) ∧ w'.cell? ⟨b, off + k * 5, none⟩ = some (.int .i64 y) ∧ w'.cell? ⟨b, off + k * 5 + 1, none⟩ = some (.int .i64 bi.began) ∧ w'.cell? ⟨b, off + k * 5 + 2, none⟩ = some (.int .i64 bi.ended) ∧ w'.cell? ⟨b, off + k * 5 + 3, none⟩ = some svk ∧ w'.cell? ⟨b, off + k * 5 + 4, none⟩ = some wvk) (first | exact g3 | exact HK8.out) (first | (go_at_call 9; refine (HCL.out _ HBE.out.drew).mono ?_; rintro e w3 ⟨rfl, hb3, g3⟩))
          all_goals
            have HW3 : Hid (Below w.heap.size w w3) := HBE.out.drew.trans (hb3.mono HBE.out.drew.size)
            have HF3 : Hid (IsEdges w3 u3 F) := HFD.out.1.below (B := wr.heap.size) (((Below.refl _ wr).drew).trans hb3) (Nat.le_refl _)
            clear hb3 g3 HCL HK8
            by_cases hik : i = k
            · have hikb : ((i : Int) == (k : Int)) = true := by simp; omega
              have HEQ : Hid (antiY of x F y = F) := by show _ = _; unfold antiY; rw [if_pos (.inl (HIK.out.1 hik))]
              go_wp2_with fail
              go_roundw
              case rel => exact ⟨k + 1, by omega, by go_num, by rw [HNY.out, HEQ.out]; exact HF3.out, HFD.out.2.1, HW3.out⟩
              case measure => simp [intOf]; omega
            · have hikb : ((i : Int) == (k : Int)) = false := by simp; omega
              cases hon : onceK ai bi with
              | false =>
                have HEQ : Hid (antiY of x F y = F) := by show _ = _; unfold antiY; rw [HAI.out.1, HAI.out.2, if_pos (.inr hon)]
                clear hon
                go_wp2_with fail
                go_roundw
                case rel => exact ⟨k + 1, by omega, by go_num, by rw [HNY.out, HEQ.out]; exact HF3.out, HFD.out.2.1, HW3.out⟩
                case measure => simp [intOf]; omega
              | true =>
                have hwk40 := HWK.out
                have HEQ : Hid (antiY of x F y = antiW x y ai F bi.wrote) := by show _ = _; unfold antiY; rw [HAI.out.1, HAI.out.2, if_neg (by rw [hon, ← HIK.out]; simp [hik])]
                obtain ⟨adw, bw, ofw, cpw, hvw, haw, -, hbBw, hcw⟩ := HDK.out.wrote
                subst hvw
                have HCW : Hid (∀ W, Below w.heap.size w W → ∀ j, j < bi.wrote.length → adw = some ⟨bw, ofw, none⟩ ∧ W.cell? ⟨bw, ofw + j, none⟩ = some (.int .i64 (bi.wrote.getD j 0))) := fun W hW j hj => by
                  have hb0 : bw < w.heap.size := by
                    rcases hbBw with h | h
                    · exact h
                    · rw [h] at hj; simp at hj
                  exact ⟨haw (by omega), (hW.cell (p := ⟨bw, ofw + j, none⟩) hb0).trans (hcw j hj)⟩
                clear haw hbBw hcw hon hik
                go_wp2_with fail
                go_loopw [3, 7] (fun v3 v7 wr => ∃ j : Nat, j ≤ bi.wrote.length ∧ v7 = .int .i64 j ∧ IsEdges wr v3 (antiW x y ai F (bi.wrote.take j)) ∧ Roomy v3 ∧ Below w.heap.size w wr) (fun _ v7 _ => bi.wrote.length - (intOf v7).toNat)
                case atStart => exact ⟨0, Nat.zero_le _, rfl, HF3.out, HFD.out.2.1, HW3.out⟩
                case round =>
                  obtain ⟨j, hj, rfl, hed, hro, hbel⟩ := hrel
                  have hGl := antiW_len x y ai (bi.wrote.take j) F
                  have htj : (bi.wrote.take j).length ≤ j := List.length_take_le _ _
                  obtain ⟨G, hG⟩ : ∃ G, antiW x y ai F (bi.wrote.take j) = G := ⟨_, rfl⟩
                  have HG := hid_a hG
                  rw [hG] at hed hGl
                  have HGD := hid_a (And.intro hed (And.intro hro hbel))
                  have hgl2 : G.length ≤ 1960 := by have := HWK.out; omega
                  obtain ⟨q0, q1, q2, q3, q4⟩ := HCI.out _ hbel
                  obtain ⟨r0, r1, r2, r3, r4⟩ := HCK.out _ hbel
                  clear hed hro hG hGl htj hbel
                  by_cases hltj : j < bi.wrote.length
                  · have hltj' : (j : Int) < (bi.wrote.length : Int) := by omega
                    have hj0 : (0 : Int) ≤ (j : Int) := by omega
                    have hjn : ¬ (j : Int) < 0 := by omega
                    obtain ⟨rfl, e0⟩ := HCW.out _ HGD.out.2.2 j hltj
                    obtain ⟨it, hit⟩ : ∃ it, bi.wrote.getD j 0 = it := ⟨_, rfl⟩
                    rw [hit] at e0
                    have HNW : Hid (antiW x y ai F (bi.wrote.take (j + 1)) = if readK x ai it = true then addE G (x, y) else G) := by
                      show _ = _
                      unfold antiW
                      rw [takeI_fold _ _ hltj, hit]
                      show (if readK x ai it = true then addE (antiW x y ai F (bi.wrote.take j)) (x, y) else antiW x y ai F (bi.wrote.take j)) = _
                      rw [HG.out]
                    have HRD : Hid (∀ W, Below w.heap.size w W → Calls Tryd.prog 23 #[.agg #[.int .i64 x, .int .i64 ai.began, .int .i64 ai.ended, svi, wvi], .int .i64 it] W fun e w' => e = .returned (.bool (readK x ai it)) ∧ Below W.heap.size W w') := fun W hW => read_any x ai svi wvi it W (HDI.out.below hW (Nat.le_refl _))
                    have HK13 : Hid ((wr.drew.cell? ⟨b, off + i * 5, none⟩ = some (.int .i64 x) ∧ wr.drew.cell? ⟨b, off + i * 5 + 1, none⟩ = some (.int .i64 ai.began) ∧ wr.drew.cell? ⟨b, off + i * 5 + 2, none⟩ = some (.int .i64 ai.ended) ∧ wr.drew.cell? ⟨b, off + i * 5 + 3, none⟩ = some svi ∧ wr.drew.cell? ⟨b, off + i * 5 + 4, none⟩ = some wvi) ∧ wr.drew.cell? ⟨b, off + k * 5 + 4, none⟩ = some (.slice (some ⟨bw, ofw, none⟩) bi.wrote.length cpw) ∧ wr.drew.cell? ⟨bw, ofw + j, none⟩ = some (.int .i64 it)) := ⟨⟨q0, q1, q2, q3, q4⟩, r4, e0⟩
                    have HRD2 : Hid (Calls Tryd.prog 23 #[.agg #[.int .i64 x, .int .i64 ai.began, .int .i64 ai.ended, svi, wvi], .int .i64 it] wr.drew fun e w' => e = .returned (.bool (readK x ai it)) ∧ ((w'.cell? ⟨b, off + i * 5, none⟩ = some (.int .i64 x) ∧ w'.cell? ⟨b, off + i * 5 + 1, none⟩ = some (.int .i64 ai.began) ∧ w'.cell? ⟨b, off + i * 5 + 2, none⟩ = some (.int .i64 ai.ended) ∧ w'.cell? ⟨b, off + i * 5 + 3, none⟩ = some svi ∧ w'.cell? ⟨b, off + i * 5 + 4, none⟩ = some wvi) ∧ w'.cell? ⟨b, off + k * 5 + 4, none⟩ = some (.slice (some ⟨bw, ofw, none⟩) bi.wrote.length cpw) ∧ w'.cell? ⟨bw, ofw + j, none⟩ = some (.int .i64 it)) ∧ Below wr.heap.size wr w' ∧ Below w.heap.size w w' ∧ w'.cell? ⟨b, off + k * 5, none⟩ = some (.int .i64 y)) := by
                      have hdr := (Below.refl wr.heap.size wr).drew
                      refine (HRD.out wr.drew HGD.out.2.2.drew).mono ?_
                      rintro e w' ⟨he, hb⟩
                      have hb' : Below wr.heap.size wr w' := hdr.trans hb
                      have h2 : Below w.heap.size w w' := HGD.out.2.2.trans (hb'.mono HGD.out.2.2.size)
                      obtain ⟨t0, t1, t2, t3, t4⟩ := HCI.out _ h2
                      obtain ⟨s0, -, -, -, s4⟩ := HCK.out _ h2
                      exact ⟨he, ⟨⟨t0, t1, t2, t3, t4⟩, s4, (HCW.out _ h2 j hltj).2.trans (by rw [← hit])⟩, hb', h2, s0⟩
                    clear hit
                    go_wp2_with fail
                    go_region_held3 (fun w' => (w'.cell? ⟨b, off + i * 5, none⟩ = some (.int .i64 x) ∧ w'.cell? ⟨b, off + i * 5 + 1, none⟩ = some (.int .i64 ai.began) ∧ w'.cell? ⟨b, off + i * 5 + 2, none⟩ = some (.int .i64 ai.ended) ∧ w'.cell? ⟨b, off + i * 5 + 3, none⟩ = some svi ∧ w'.cell? ⟨b, off + i * 5 + 4, none⟩ = some wvi) ∧ w'.cell? ⟨b, off + k * 5 + 4, none⟩ = some (.slice (some ⟨bw, ofw, none⟩) bi.wrote.length cpw) ∧ w'.cell? ⟨bw, ofw + j, none⟩ = some (.int .i64 it)) (first | exact g4 | exact HK13.out) (first | (go_at_call 23; refine HRD2.out.mono ?_; rintro e w4 ⟨rfl, g4, hb4, hw4, s0⟩))
                    all_goals
                      have HG4 : Hid (IsEdges w4 u3 G) := HGD.out.1.below (B := wr.heap.size) hb4 (Nat.le_refl _)
                      have HW4 := hid_a hw4
                      obtain ⟨⟨t0, -, -, -, -⟩, -, -⟩ := g4
                      clear hb4 hw4 HRD2 HK13 q0 q1 q2 q3 q4 r0 r1 r2 r3 r4 e0
                      cases hrd : readK x ai it with
                      | false =>
                        have HNN : Hid (antiW x y ai F (bi.wrote.take (j + 1)) = G) := by show _ = _; rw [HNW.out, if_neg (by rw [hrd]; decide)]
                        clear hrd
                        go_wp2_with fail
                        go_roundw
                        case rel => exact ⟨j + 1, by omega, by go_num, by rw [HNN.out]; exact HG4.out, HGD.out.2.1, HW4.out⟩
                        case measure => simp [intOf]; omega
                      | true =>
                        have HNN : Hid (antiW x y ai F (bi.wrote.take (j + 1)) = addE G (x, y)) := by show _ = _; rw [HNW.out, if_pos hrd]
                        have HK15 : Hid (w4.drew.cell? ⟨b, off + i * 5, none⟩ = some (.int .i64 x) ∧ w4.drew.cell? ⟨b, off + k * 5, none⟩ = some (.int .i64 y)) := ⟨t0, s0⟩
                        have HAD : Hid (Calls Tryd.prog 10 #[u3, .agg #[.int .i64 x, .int .i64 y]] w4.drew fun e w' => ∃ v', e = .returned v' ∧ (w'.cell? ⟨b, off + i * 5, none⟩ = some (.int .i64 x) ∧ w'.cell? ⟨b, off + k * 5, none⟩ = some (.int .i64 y)) ∧ IsEdges w' v' (addE G (x, y)) ∧ Roomy v' ∧ Below w.heap.size w w') := by
                          have hdr := (Below.refl w4.heap.size w4).drew
                          refine (refAdd_any G x y u3 w4.drew (HG4.out.below hdr (Nat.le_refl _)) HGD.out.2.1 (by omega)).mono ?_
                          rintro e w' ⟨v', he, h1, h2, hb⟩
                          have h3 : Below w.heap.size w w' := HW4.out.trans ((hdr.trans hb).mono HW4.out.size)
                          obtain ⟨t0, -, -, -, -⟩ := HCI.out _ h3
                          obtain ⟨s0, -, -, -, -⟩ := HCK.out _ h3
                          exact ⟨v', he, ⟨t0, s0⟩, h1, h2, h3⟩
                        clear hrd
                        go_wp2_with fail
                        go_region_held3 (fun w' => w'.cell? ⟨b, off + i * 5, none⟩ = some (.int .i64 x) ∧ w'.cell? ⟨b, off + k * 5, none⟩ = some (.int .i64 y)) (first | exact g5 | exact HK15.out) (first | (go_at_call 10; refine HAD.out.mono ?_; rintro e w5 ⟨v5, rfl, g5, hi5, hr5, hb5⟩; obtain ⟨xa, xb, xc, rfl, -⟩ := id hr5))
                        all_goals
                          have HI5 := hid_a (And.intro hi5 (And.intro hr5 hb5))
                          clear hi5 hr5 hb5 g5
                          go_wp2_with fail
                          go_roundw
                          case rel => exact ⟨j + 1, by omega, by go_num, by rw [HNN.out]; exact HI5.out.1, HI5.out.2.1, HI5.out.2.2⟩
                          case measure => simp [intOf]; omega
                  · have hltj' : ¬ (j : Int) < (bi.wrote.length : Int) := by omega
                    obtain rfl : j = bi.wrote.length := by omega
                    have HEN : Hid (antiY of x F y = G) := by show _ = _; rw [HEQ.out, ← HG.out, List.take_length]
                    go_wp2_with fail
                    go_roundw
                    case rel => exact ⟨k + 1, by omega, by go_num, by rw [HNY.out, HEN.out]; exact HGD.out.1, HGD.out.2.1, HGD.out.2.2⟩
                    case measure => simp [intOf]; omega
        · have hltk' : ¬ (k : Int) < (ds.length : Int) := by omega
          obtain rfl : k = ds.length := by omega
          have HEQ : Hid (antiX of ds E x = F) := by show _ = _; unfold antiX; rw [← HF.out, List.take_length]
          go_wp2_with fail
          go_roundw
          case rel => exact ⟨i + 1, by omega, by go_num, by rw [HNX.out, HEQ.out]; exact HFD.out.1, HFD.out.2.1, HFD.out.2.2⟩
          case measure => simp [intOf]; omega
    · have hlt' : ¬ (i : Int) < (ds.length : Int) := by omega
      obtain rfl : i = ds.length := by omega
      go_wp2_with fail
      go_ret
      refine ⟨_, rfl, ?_, HED.out.2.2⟩
      have h1 := HED.out.1
      rw [← HE.out, List.take_length] at h1
      exact h1
end Go.Proofs.YtccjognnehoodafDoor
