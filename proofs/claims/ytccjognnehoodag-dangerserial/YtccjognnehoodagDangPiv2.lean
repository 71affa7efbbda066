/-
  PROVED HERE: package danger's pivots: those to which one of the edges leads, and from which one leads; rising. Old memory stays as it was.
  Conditions: the list of edges is not too long.
-/
import Derived.Test.YtccjognnehoodagDangPiv
import Derived.Test.YtccjognnehoodagMgaw
namespace Go.Proofs.Ytccjognnehoodag
open Go.RowKit

/-- What a pointer to a number holds. -/
def heldD (w : World) : Value → Int
  | .pointer (some a) => intOf ((w.cell? a).getD undef)
  | _ => 0
/-- A number in a block of its own. -/
def DBox (w : World) (c : Nat) (x : Int) : Prop := w.heap[c]? = some (.cells #[.int .i64 x] 3)
theorem DBox.cell {w : World} {c : Nat} {x : Int} (h : DBox w c x) : w.cell? ⟨c, 0, none⟩ = some (.int .i64 x) := by
  rw [cell_of_row w c 0 _ _ (0, 0) h]; rfl
theorem DBox.lt {w : World} {c : Nat} {x : Int} (h : DBox w c x) : c < w.heap.size := (Array.getElem?_eq_some_iff.1 h).1
theorem DBox.below {w w' : World} {c B : Nat} {x : Int} (h : DBox w c x) (hb : Below B w w') (hc : c < B) : DBox w' c x := (hb.block c hc).trans h
theorem DBox.alloc {w : World} {c : Nat} {x : Int} (h : DBox w c x) (o : Obj) : DBox (w.alloc o) c x := h.below ((Below.refl _ w).alloc (Nat.le_refl _) o) h.lt
theorem dBox_new (w : World) (x : Int) : DBox (w.alloc (.cells #[.int .i64 x] 3)) w.heap.size x := heap_alloc_new w _
set_option maxHeartbeats 8000000 in
set_option maxRecDepth 100000 in
theorem dpivots_fn (l : List Edge2) (v : Value) (w : World) (hI : IsEdges w v l) (hl : l.length ≤ 10000000) :
    Calls Try.prog 24 #[v] w fun e w' => ∃ v', e = .returned v' ∧ w'.ownsRow w.heap.size 3 1 v' (pivTo l 6).length ((pivTo l 6).map (Value.int .i64)) ∧ Below w.heap.size w w' := by
  have HC1 : Hid (∀ (X : World) (b : Nat) (t : Int), Below w.heap.size w X → X.cell? ⟨b, 0, none⟩ = some (.int .i64 t) → Calls Try.prog 40 #[v, .func (.func 41) #[] #[.pointer (some ⟨b, 0, none⟩)]] X fun r w' => r = .returned (.bool (l.any fun e => e.2 == t)) ∧ Below X.heap.size X w') := fun X b t hX hc =>
    contains_edge l v (fun e => e.2 == t) _ _ X call_piv1 (hI.below hX (Nat.le_refl _)) (by omega) fun W2 hW2 e _ => piv1_fn e t b W2 ((hW2.cell (p := ⟨b, 0, none⟩) (World.block_lt_of_cell? X _ hc)).trans hc)
  have HC2 : Hid (∀ (X : World) (b : Nat) (t : Int), Below w.heap.size w X → X.cell? ⟨b, 0, none⟩ = some (.int .i64 t) → Calls Try.prog 40 #[v, .func (.func 42) #[] #[.pointer (some ⟨b, 0, none⟩)]] X fun r w' => r = .returned (.bool (l.any fun e => e.1 == t)) ∧ Below X.heap.size X w') := fun X b t hX hc =>
    contains_edge l v (fun e => e.1 == t) _ _ X call_piv2 (hI.below hX (Nat.le_refl _)) (by omega) fun W2 hW2 e _ => piv2_fn e t b W2 ((hW2.cell (p := ⟨b, 0, none⟩) (World.block_lt_of_cell? X _ hc)).trans hc)
  obtain ⟨ad, b0, off, cap, rfl, -⟩ := hI
  obtain ⟨i0, hi, hz0, hs0, hy0⟩ := info_parts infoInt
  have HI : Hid (Try.prog.info? 3 = some i0 ∧ i0.zero = some (.int .i64 0) ∧ i0.size = 1 ∧ i0.bytes = 8) := ⟨hi, hz0, hs0, hy0⟩
  obtain ⟨m, hm⟩ : ∃ m, l.length = m := ⟨_, rfl⟩
  rw [hm] at HC1 HC2 hl
  rw [hm]
  clear hi hz0 hs0 hy0 hm
  go_enter Try.func24, Try.ntmps24
  go_wp2_with fail
  go_loopw [3, 4] (fun v3 v4 wr => ∃ (k b : Nat), k ≤ 6 ∧ v4 = .pointer (some ⟨b, 0, none⟩) ∧ DBox wr b ((k : Int) + 1) ∧ wr.ownsRow w.heap.size 3 1 v3 (pivTo l k).length ((pivTo l k).map (Value.int .i64)) ∧ (∀ g, v3.ownBlock = some g → g ≠ b) ∧ Below w.heap.size w wr) (fun _ v4 wr => 7 - (heldD wr v4).toNat)
  case atStart => exact ⟨0, _, by omega, rfl, by simpa using dBox_new w 1, World.ownsRow_nil _ _ _ _, fun g hg => by simp [Value.ownBlock] at hg, (Below.refl _ w).alloc (Nat.le_refl _) _⟩
  case round =>
    obtain ⟨k, b, hk, rfl, hbox, hown, hne, hbel⟩ := hrel
    have hcell := hbox.cell
    have hbl := hbox.lt
    have HBOX := hid_q hbox
    have HOWN := hid_q hown
    have HNE := hid_q hne
    have HBEL := hid_q hbel
    have hwl := pivTo_len l k
    obtain ⟨n, hn⟩ : ∃ n, (pivTo l k).length = n := ⟨_, rfl⟩
    have HN := hid_q hn
    rw [hn] at hwl HOWN
    clear hbox hown hne hn
    by_cases hk6 : k < 6
    · have hk6' : (k : Int) + 1 ≤ 6 := by omega
      have HD1 := hid_q (HC1.out wr b _ hbel hcell)
      obtain ⟨p1, hp1⟩ : ∃ p, (l.any fun e => e.2 == (k : Int) + 1) = p := ⟨_, rfl⟩
      obtain ⟨p2, hp2⟩ : ∃ p, (l.any fun e => e.1 == (k : Int) + 1) = p := ⟨_, rfl⟩
      have HQ : Hid (pivTo l (k + 1) = pivTo l k ++ (if (p1 && p2) = true then [(k : Int) + 1] else [])) := by show _ = _; rw [pivTo_succ]; unfold pivAt; rw [hp1, hp2]
      have HP2 := hid_q hp2
      rw [hp1] at HD1
      clear hp1 hp2
      go_wp2_with fail
      refine HD1.out.mono ?_
      rintro e w1 ⟨rfl, hb1⟩
      have HB1 := hid_q hb1
      have c1 := (hb1.cell (p := ⟨b, 0, none⟩) hbl).trans hcell
      have HD2 := hid_q (HC2.out w1 b _ (HBEL.out.trans (hb1.mono HBEL.out.size)) c1)
      rw [HP2.out] at HD2
      clear hb1
      go_wp2_with fail
      refine HD2.out.mono ?_
      rintro e wX ⟨rfl, hb2⟩
      have hbX0 : Below wr.heap.size wr wX := HB1.out.trans (hb2.mono HB1.out.size)
      have HOX : Hid (wX.ownsRow w.heap.size 3 1 u3 n ((pivTo l k).map (Value.int .i64))) := (Turns.of_below (F := fun _ => False) hbX0).own HOWN.out (fun _ _ hf => hf)
      have HBX : Hid (Below w.heap.size w wX) := HBEL.out.trans (hbX0.mono HBEL.out.size)
      have hboxX := HBOX.out.below hbX0 hbl
      have HBOXX := hid_q hboxX
      have kX := hboxX.cell
      have hblX := hboxX.lt
      have hVX := HBX.out.size
      clear hb2 hbX0 hboxX c1 HB1 HD1 HD2
      cases p1 with
      | true =>
        cases p2 with
        | true =>
          go_wp2_with (at_builtin; refine wpList_append_apart _ rfl (.tmp 21) (.tmp 23) 25 rfl w.heap.size 3 i0 (.int .i64 0) 1 8 Try.underlying25 HI.out.1 HI.out.2.1 HI.out.2.2.1 HI.out.2.2.2 rfl (by decide) u3 n ((pivTo l k).map (Value.int .i64)) rfl (HOX.out.alloc _) ⟨wX.heap.size, 0, none⟩ 1 1 [.int .i64 ((k : Int) + 1)] rfl rfl (cell_one_new _ _ _) (by simp [Value.oneCell']) (by unfold maxLen; omega) (by omega) (by simp; omega) ?_; intro v7 w7 hown7 hgr7 hap7; have j7 : w7.cell? ⟨b, 0, none⟩ = some (.int .i64 ((k : Int) + 1)) := (DBox.cell (show DBox w7 b ((k : Int) + 1) from (hgr7.block b (by simp; omega) (fun e => HNE.out b e.symm rfl)).trans (HBOXX.out.alloc _))))
          have hB7 := (HBX.out.alloc hVX _).grown hgr7 (by simp; omega) (fun g hg => (HOX.out.lt g hg).1)
          go_roundw
          case rel => exact ⟨k + 1, w7.heap.size, by omega, rfl, by simpa using dBox_new w7 _, by rw [HQ.out, if_pos (show (true && true) = true from rfl), List.length_append, HN.out, List.map_append]; exact hown7.alloc _, fun g hg => by have := (hown7.lt g hg).2; omega, hB7.alloc hB7.size _⟩
          case measure => simp [heldD, intOf, hcell]; omega
        | false =>
          go_wp2_with fail
          go_roundw
          case rel => exact ⟨k + 1, wX.heap.size, by omega, rfl, by simpa using dBox_new wX _, by rw [HQ.out, if_neg (by decide), List.append_nil, HN.out]; exact HOX.out.alloc _, fun g hg => by have := (HOX.out.lt g hg).2; omega, HBX.out.alloc HBX.out.size _⟩
          case measure => simp [heldD, intOf, hcell]; omega
      | false =>
        go_wp2_with fail
        go_roundw
        case rel => exact ⟨k + 1, wX.heap.size, by omega, rfl, by simpa using dBox_new wX _, by rw [HQ.out, if_neg (by rw [Bool.false_and]; decide), List.append_nil, HN.out]; exact HOX.out.alloc _, fun g hg => by have := (HOX.out.lt g hg).2; omega, HBX.out.alloc HBX.out.size _⟩
        case measure => simp [heldD, intOf, hcell]; omega
    · have hk6' : ¬ (k : Int) + 1 ≤ 6 := by omega
      obtain rfl : k = 6 := by omega
      go_wp2_with fail
      go_ret
      exact ⟨_, rfl, by rw [HN.out]; exact HOWN.out, HBEL.out⟩
end Go.Proofs.Ytccjognnehoodag
