/-
  PROVED HERE: strict.lane's method isInRing, over a run in memory: does a deal wait for itself, by way of others.
  Conditions: the lists are short, name deals, and what is said of those that wait fits the table.
  PROVED HERE: strict.lane's method goOn, over a run in memory, if 'do' does what chapter 9 says: what stands behind a deal is done, one by one, as long as it does not wait.
  Conditions: what 'do' does is a premise.
-/
import Derived.Test.YtmjjiehnjghndaaGreatMgbv
import Derived.Test.YtmjjiehnjghndaaGreatMgar
import Derived.Test.YtmjjiehnjghndaaGreatMgbx
import Derived.Test.YtmjjiehnjghndaaGreatMgap
namespace Go.Proofs.YtmjjiehnjghndaaGreat
open Go.RowKit

theorem reachP (l : List Edge2) (v : Value) (a b : Nat) (w : World) (hI : IsEdges w v l) (hc : gchk l = 0) (ha : dealB a = true) (hb : dealB b = true) (q : Bool) (hq : q = true ↔ Way (stepsS l) a b) :
    Calls Tryz.prog 104 #[v, .int .i64 a, .int .i64 b] w fun e w' => e = .returned (.tuple #[.bool q, .nilIface]) ∧ Below w.heap.size w w' := by
  refine (reach_any l v a b w hI hc ha hb).mono ?_
  rintro e w' ⟨x, rfl, hx, hb'⟩
  obtain rfl : x = q := by
    cases x <;> cases q
    · rfl
    · exact absurd (hx.2 (hq.1 rfl)) (by decide)
    · exact absurd (hq.2 (hx.1 rfl)) (by decide)
    · rfl
  exact ⟨rfl, hb'⟩
theorem edges_gchk0 {l : List Edge2} (hl : l.length ≤ 60) (hd : ∀ e ∈ l, (1 ≤ e.1 ∧ e.1 ≤ 6) ∧ (1 ≤ e.2 ∧ e.2 ≤ 6)) : gchk l = 0 := by
  unfold gchk
  rw [if_neg (by omega), if_neg]
  intro h
  obtain ⟨e, he, hw⟩ := List.any_eq_true.1 h
  have := hd e he
  simp [wrongB, dealB] at hw
  omega
set_option maxHeartbeats 8000000 in
set_option maxRecDepth 100000 in
theorem isInRing_run {R : Nat} {way : Int} {r : Runr} {P : Int → Option Op3} {c : Lay} {w : World} (h : LaneAt w R way r (wm r P) c) (hf : Fits r P) {t : Nat} (ht1 : 1 ≤ t) (ht6 : t ≤ 6) (hl1 : r.tab.1.length ≤ 400) (hl2 : r.tab.2.length ≤ 400) (hw : ∀ d x, x ∈ whomR r.tab d → 1 ≤ x ∧ x ≤ 6) :
    Calls Tryz.prog 80 #[.pointer (some ⟨R, 0, none⟩), .int .i64 t] w fun e w' => e = .returned (.bool (ringR r.tab t)) ∧ Below w.heap.size w w' := by
  have HF : Hid (∀ W d, Below w.heap.size w W → 1 ≤ d → d ≤ 6 → Calls Tryz.prog 84 #[.pointer (some ⟨R, 0, none⟩), .int .i64 d] W fun e w' => ∃ v, e = .returned v ∧ OwnI w' W.heap.size v (whomR r.tab d) ∧ Below W.heap.size W w') := fun W d hW h1 h6 => waitsFor_run (h.below hW) hf (wf_deal h1 h6) hl1 hl2
  obtain ⟨s, hs⟩ : ∃ s, r.tab = s := ⟨_, rfl⟩
  rw [hs] at HF hw ⊢
  have HW : Hid (∀ d x, x ∈ whomR s d → 1 ≤ x ∧ x ≤ 6) := hw
  have HRG : Hid (ringR s t = warTo (edgesK s 6) 6 t t) := rfl
  obtain ⟨i0, hi, hz0, hs0, hy0⟩ := info_parts infoEdge
  have HI : Hid (Tryz.prog.info? 80 = some i0 ∧ i0.zero = some (.agg #[.int .i64 0, .int .i64 0]) ∧ i0.size = 2 ∧ i0.bytes = 16) := ⟨hi, hz0, hs0, hy0⟩
  clear hw hs hi hz0 hs0 hy0 h hf hl1 hl2
  go_enter Tryz.func80, Tryz.ntmps80
  go_wp2_with fail
  go_loopw [5, 6] (fun v5 v6 wr => ∃ k : Nat, k ≤ 6 ∧ v6 = .int .i64 ((k : Int) + 1) ∧ wr.ownsRow w.heap.size 80 2 v5 (edgesK s k).length (flatE (edgesK s k)) ∧ Below w.heap.size w wr) (fun _ v6 _ => 8 - (intOf v6).toNat)
  case atStart => exact ⟨0, by omega, by go_num, World.ownsRow_nil _ _ _ _, Below.refl _ _⟩
  case round =>
    obtain ⟨k, hk, rfl, hown, hbel⟩ := hrel
    have HOWN : Hid (wr.ownsRow w.heap.size 80 2 u5 (edgesK s k).length (flatE (edgesK s k))) := hown
    have HB : Hid (Below w.heap.size w wr) := hbel
    clear hown hbel
    by_cases hlt : k < 6
    · have hlt' : (k : Int) + 1 ≤ 6 := by omega
      go_wp2_with fail
      refine (HF.out wr ((k : Int) + 1) HB.out (by omega) (by omega)).mono ?_
      rintro e w2 ⟨v2, rfl, hi2, hb2⟩
      have HB2 : Hid (Below w.heap.size w w2) := HB.out.trans (hb2.mono HB.out.size)
      have HO2 : Hid (w2.ownsRow w.heap.size 80 2 u5 (edgesK s k).length (flatE (edgesK s k))) := own_below HOWN.out hb2 (Nat.le_refl _)
      obtain ⟨ws, hws⟩ : ∃ ws, whomR s ((k : Int) + 1) = ws := ⟨_, rfl⟩
      have HWS : Hid (whomR s ((k : Int) + 1) = ws ∧ (edgesK s k).length ≤ 36) := ⟨hws, by have := edgesK_len HW.out k; omega⟩
      have hws6 : ws.length ≤ 6 := by rw [← hws]; exact whom_six HW.out _
      rw [hws] at hi2
      have HI2 : Hid (OwnI w2 w.heap.size v2 ws) := hi2.less HB.out.size
      obtain ⟨ad, cap, hv2, -⟩ := own_slice3 hi2
      subst hv2
      clear hb2 hws HB HOWN hi2
      go_wp2_with fail
      go_loopw [5, 19] (fun v5 v8 wr => ∃ j : Nat, j ≤ ws.length ∧ v8 = .int .i64 j ∧ wr.ownsRow w.heap.size 80 2 v5 ((edgesK s k).length + j) (flatE (edgesK s k ++ (ws.take j).map fun x => ((k : Int) + 1, x))) ∧ OwnI wr w.heap.size (.slice ad ws.length cap) ws ∧ Below w.heap.size w wr) (fun _ v8 _ => ws.length - (intOf v8).toNat)
      case atStart => exact ⟨0, Nat.zero_le _, rfl, by simpa using HO2.out, HI2.out, HB2.out⟩
      case round =>
        obtain ⟨j, hj, rfl, hown, hints, hbel⟩ := hrel
        have HB3 : Hid (Below w.heap.size w wr) := hbel
        have HIN : Hid (OwnI wr w.heap.size (.slice ad ws.length cap) ws) := hints
        have hsz : w.heap.size ≤ wr.heap.size := hbel.size
        clear hbel
        by_cases hjl : j < ws.length
        · have hjl' : (j : Int) < (ws.length : Int) := by omega
          obtain ⟨g, hadr, -, -, -⟩ := (own_slice3 hints).elim fun _ h => h.elim fun _ h => by
            obtain ⟨e, h⟩ := h
            simp only [Value.slice.injEq, true_and] at e
            obtain ⟨rfl, rfl⟩ := e
            exact h (by omega)
          subst hadr
          obtain ⟨x, hx⟩ : ∃ x, ws.getD j 0 = x := ⟨_, rfl⟩
          have c0 : wr.cell? ⟨g, j, none⟩ = some (.int .i64 x) := by
            have h1 : wr.ownsRow w.heap.size 3 1 (.slice (some ⟨g, 0, none⟩) ws.length cap) ws.length (ws.map (Value.int .i64)) := hints
            have h2 := h1.cells (g := g) rfl j (.int .i64 x) (by rw [List.getElem?_map, List.getElem?_eq_getElem hjl, ← hx]; simp [List.getD, hjl])
            rw [Addr.add_lit, Nat.zero_add] at h2
            exact h2
          have HX : Hid (ws.take (j + 1) = ws.take j ++ [x]) := by
            show ws.take (j + 1) = _
            rw [List.take_succ_eq_append_getElem hjl, ← hx]
            simp [List.getD, hjl]
          obtain ⟨n, hn⟩ : ∃ n, (edgesK s k).length + j = n := ⟨_, rfl⟩
          have hn1 : n ≤ 60 := by have := HWS.out.2; omega
          have HN : Hid ((edgesK s k).length + j = n) := hn
          rw [hn] at hown
          have HOW : Hid (wr.ownsRow w.heap.size 80 2 u5 n (flatE (edgesK s k ++ (ws.take j).map fun x => ((k : Int) + 1, x)))) := hown
          clear hown hx hn hints
          go_wp2_with (at_builtin; refine wpList_append_own _ rfl (.tmp 23) (.tmp 27) 57 rfl w.heap.size 80 i0 (.agg #[.int .i64 0, .int .i64 0]) 2 16 Tryz.underlying57 HI.out.1 HI.out.2.1 HI.out.2.2.1 HI.out.2.2.2 rfl (by decide) u5 n (flatE (edgesK s k ++ (ws.take j).map fun x => ((k : Int) + 1, x))) rfl (HOW.out.alloc _) ⟨wr.heap.size, 0, none⟩ 1 1 (flatE [((k : Int) + 1, x)]) rfl rfl (one_edge wr ((k : Int) + 1) x) (flatE_one _) (by unfold maxLen; omega) (by omega) (by simp; omega) ?_; intro v4 w4 hown4 hgr4 hnil4)
          have hb4 : Below w.heap.size w w4 := (HB3.out.alloc hsz _).grown hgr4 (by simp; omega) fun q hq => (HOW.out.lt q hq).1
          have hi4 : OwnI w4 w.heap.size (.slice (some ⟨g, 0, none⟩) ws.length cap) ws := World.ownsRow.kept (World.ownsRow.alloc HIN.out _) hgr4 (unlike_apart HIN.out HOW.out (by decide))
          go_roundw
          case rel => exact ⟨j + 1, by omega, by go_num, by rw [← Nat.add_assoc, HN.out, HX.out, List.map_append, ← List.append_assoc, flatE_append]; exact hown4, hi4, hb4⟩
          case measure => simp [intOf]; omega
        · have hjl' : ¬ (j : Int) < (ws.length : Int) := by omega
          obtain rfl : j = ws.length := by omega
          have HO3 : Hid (wr.ownsRow w.heap.size 80 2 u5 (edgesK s (k + 1)).length (flatE (edgesK s (k + 1)))) := by
            show World.ownsRow _ _ _ _ _ _ _
            rw [edgesK_succ, HWS.out.1, List.length_append, List.length_map]
            rw [List.take_length] at hown
            exact hown
          clear hown hints
          go_wp2_with fail
          go_roundw
          case rel => exact ⟨k + 1, by omega, by go_num, HO3.out, HB3.out⟩
          case measure => simp [intOf]; omega
    · have hlt' : ¬ (k : Int) + 1 ≤ 6 := by omega
      obtain rfl : k = 6 := by omega
      have hde := edgesK_deals HW.out
      have hle : (edgesK s 6).length ≤ 60 := by have := edgesK_len HW.out 6; omega
      have hc0 := edges_gchk0 hle hde
      have hdt : dealB (t : Int) = true := by simp [dealB]; omega
      have hway := war_way (l := edgesK s 6) hde t t
      obtain ⟨q, hb⟩ : ∃ q, warTo (edgesK s 6) 6 t t = q := ⟨_, rfl⟩
      rw [hb] at HRG hway
      have HRE : Hid (Calls Tryz.prog 104 #[u5, .int .i64 t, .int .i64 t] wr fun e w' => e = .returned (.tuple #[.bool q, .nilIface]) ∧ Below wr.heap.size wr w') := reachP (edgesK s 6) u5 t t wr (isEdges_own HOWN.out rfl) hc0 hdt hdt q hway
      clear hde hle hc0 hdt hway hb
      go_wp2_with fail
      refine HRE.out.mono ?_
      rintro e w2 ⟨rfl, hb2⟩
      go_wp2_with fail
      go_ret
      exact ⟨by rw [HRG.out]; rfl, HB.out.trans (hb2.mono HB.out.size)⟩
end Go.Proofs.YtmjjiehnjghndaaGreat

namespace Go.Proofs.YtmjjiehnjghndaaGreat
open Go.RowKit

/-- What 'do' is asked, by the number of calls that may still come. P: whose turn is not yet. -/
def DoL (way : Int) (n : Nat) : Prop := ∀ (R : Nat) (r : Runr) (c : Lay) (P : Int → Option Op3) (o : Op3) (w : World), LaneAt w R way r (wm r P) c → Good r → Fits r P → pot r ≤ 46 → sum6 r.behind < n → r.out o.1 = false → r.waits o.1 = false → isOpB o = true →
  Calls Tryz.prog 38 #[.pointer (some ⟨R, 0, none⟩), lockV o] w fun e w' => e = .returned (.tuple #[]) ∧ LaneStep w w' R way c (doN way n r o) (wm (doN way n r o) P)
def GoL (way : Int) (n : Nat) : Prop := ∀ (R : Nat) (r : Runr) (c : Lay) (P : Int → Option Op3) (d : Nat) (w : World), LaneAt w R way r (wm r P) c → Good r → Fits r P → P (d : Int) = none → 1 ≤ d → d ≤ 6 → pot r ≤ 47 → sum6 r.behind ≤ n →
  Calls Tryz.prog 73 #[.pointer (some ⟨R, 0, none⟩), .int .i64 d] w fun e w' => e = .returned (.tuple #[]) ∧ LaneStep w w' R way c (drainN (doN way n) (d : Int) (r.behind (d : Int)).length r) (wm (drainN (doN way n) (d : Int) (r.behind (d : Int)).length r) P)
/-- A run since a world. -/
structure Since (w0 w : World) (R : Nat) (way : Int) (c0 : Lay) (r : Runr) (g : Int → Option Value) (c : Lay) : Prop where
  run : LaneAt w R way r g c
  turn : Turns (feet R c0) w0 w
  feet : ∀ k, feet R c k → feet R c0 k ∨ w0.heap.size ≤ k
section
variable {w0 w w1 : World} {R : Nat} {way : Int} {r r1 : Runr} {g g1 : Int → Option Value} {c0 c c1 : Lay}
theorem Since.start (h : LaneAt w R way r g c) : Since w w R way c r g c := ⟨h, Turns.refl _ _, fun _ hk => .inl hk⟩
theorem Since.below (h : Since w0 w R way c0 r g c) (hb : Below w.heap.size w w1) : Since w0 w1 R way c0 r g c := ⟨h.run.below hb, h.turn.then_below hb, h.feet⟩
theorem Since.step (h : Since w0 w R way c0 r g c) (hs : LaneStep w w1 R way c r1 g1) : ∃ c1, Since w0 w1 R way c0 r1 g1 c1 := by
  obtain ⟨c1, h1, h2, h3⟩ := hs
  refine ⟨c1, h1, h.turn.trans h2 fun k hk hk2 => ?_, fun k hk => ?_⟩
  · rcases h.feet k hk2 with h4 | h4
    · exact h4
    · omega
  · rcases h3 k hk with h4 | h4
    · exact h.feet k h4
    · exact .inr (Nat.le_trans h.turn.size h4)
theorem Since.to (h : Since w0 w R way c0 r g c) (h1 : LaneAt w1 R way r1 g1 c1) (h2 : Turns (Go.Proofs.YtmjjiehnjghndaaGreat.feet R c) w w1) (h3 : ∀ k, Go.Proofs.YtmjjiehnjghndaaGreat.feet R c1 k → Go.Proofs.YtmjjiehnjghndaaGreat.feet R c k ∨ w.heap.size ≤ k) : Since w0 w1 R way c0 r1 g1 c1 := by
  refine ⟨h1, h.turn.trans h2 fun k hk hk2 => ?_, fun k hk => ?_⟩
  · rcases h.feet k hk2 with h4 | h4
    · exact h4
    · omega
  · rcases h3 k hk with h4 | h4
    · exact h.feet k h4
    · exact .inr (Nat.le_trans h.turn.size h4)
theorem Since.done (h : Since w0 w R way c0 r g c) : LaneStep w0 w R way c0 r g := ⟨c, h.run, h.turn, h.feet⟩
theorem Since.congr (h : Since w0 w R way c0 r g c) (e : ∀ d, g1 d = g d) : Since w0 w R way c0 r g1 c := ⟨h.run.congr e, h.turn, h.feet⟩
end
theorem tail_cells {w : World} {base e n : Nat} {v : Value} {l : List Op3} (h : Tail w base e 3 v n (flat l)) (hl : l.length = n) : ∃ ad c, v = .slice ad n c ∧ (0 < n → ∃ g off, ad = some ⟨g, off, none⟩ ∧ base ≤ g ∧ g < w.heap.size ∧ n ≤ c ∧ w.cell? ⟨g, off, none⟩ = some (.int .i64 (opAt l 0).1) ∧ w.cell? ⟨g, off + 1, none⟩ = some (.int .i64 (opAt l 0).2.1) ∧ w.cell? ⟨g, off + 2, none⟩ = some (.int .i64 (opAt l 0).2.2)) := by
  have h' := h
  obtain ⟨hx, ⟨hv, hd⟩ | ⟨g, off, cap, cur, hv, hbg, hg, hnc, hcs, hcell⟩⟩ := h
  · exact ⟨none, 0, by rw [hv, hd], fun h0 => by omega⟩
  · refine ⟨_, _, hv, fun h0 => ⟨g, off, rfl, hbg, (Array.getElem?_eq_some_iff.1 hg).1, hnc, ?_⟩⟩
    obtain ⟨a0, a1, a2⟩ := flat_at l 0 (by omega)
    exact ⟨hcell (0 * 3) _ a0, hcell (0 * 3 + 1) _ a1, hcell (0 * 3 + 2) _ a2⟩
theorem LaneAt.look5 {w : World} {R : Nat} {way : Int} {r : Runr} {g : Int → Option Value} {c : Lay} (h : LaneAt w R way r g c) {d : Nat} (h1 : 1 ≤ d) (h6 : d ≤ 6) : (Instr.lookup 52 (.map (some c.B)) (.int .i64 d) false).run Tryz.prog w = .ok (c.bv (d : Int)) w := by
  obtain ⟨m, hm⟩ := h.beh
  exact hm.look false Tryz.underlying52 (zero_ops w) (wf_deal (by omega) (by omega))
/-- How much stands behind a deal, as memory has it. -/
theorem beh_mu (R : Nat) {d : Nat} (h1 : 1 ≤ d) (h6 : d ≤ 6) : ∃ mu : World → Nat, ∀ {w : World} {way : Int} {r : Runr} {g : Int → Option Value} {c : Lay}, LaneAt w R way r g c → mu w = (r.behind (d : Int)).length := by
  refine ⟨fun w => match w.cell? ⟨R, 5, none⟩ with
    | some m => (match (Instr.lookup 52 m (.int .i64 d) false).run Tryz.prog w with | .ok (.slice _ n _) _ => n | _ => 0)
    | none => 0, ?_⟩
  intro w way r g c h
  obtain ⟨ad, q, hv, -⟩ := tail_cells (h.rows d (by omega)) rfl
  dsimp only
  rw [h.c5]
  simp only [h.look5 h1 h6, hv]
theorem wm_some (r : Runr) {P : Int → Option Op3} {d : Int} (hp : P d = none) : (wm r P d).isSome = r.waits d := by
  unfold wm
  cases hw : r.waits d with
  | true => rw [if_pos ⟨rfl, hp⟩]; rfl
  | false => rw [if_neg (by simp)]; rfl
theorem behind_nil {r : Runr} {d : Int} (h : r.behind d = []) : ({ r with behind := setF r.behind d [] } : Runr) = r := by
  have : setF r.behind d [] = r.behind := funext fun j => by
    unfold setF
    split
    · rename_i e; rw [e, h]
    · rfl
  rw [this]
/-- The map has had one of its entries struck that was as good as none. -/
theorem LaneAt.dropBeh {w w1 : World} {R : Nat} {way : Int} {r : Runr} {g : Int → Option Value} {c : Lay} {m d : Nat} (hd : d < 7) (h : LaneAt w R way r g c) (hp : MapIs w1 c.B (setF c.h (d : Int) none) m) (ht : Turns (fun k => k = c.B) w w1) : LaneStep w w1 R way c { r with behind := setF r.behind (d : Int) [] } g :=
  h.setBeh (w0 := w) (x := none) (q := []) hd (Turns.refl _ _) hp ht (tail_nil _ _ _ _) fun k hk => by simp [Value.ownBlock] at hk
set_option maxHeartbeats 16000000 in
set_option maxRecDepth 100000 in
theorem goOn_run {way : Int} {n : Nat} (hD : DoL way n) : GoL way n := by
  intro R r c P d w h hg hf hp hd1 hd6 hpot hsum
  have HD := hid_l hD
  have HDO := hid_l (doN_ok way n)
  have HDF := hid_l (doN_fits way n)
  have HP := hid_l hp
  have hwf : Wf (d : Int) := wf_deal (by omega) (by omega)
  obtain ⟨mu, hmu⟩ := beh_mu R hd1 hd6
  have HMU : Hid (∀ {w : World} {way : Int} {r : Runr} {g : Int → Option Value} {c : Lay}, LaneAt w R way r g c → mu w = (r.behind (d : Int)).length) := hmu
  clear hmu
  obtain ⟨TG, hTG⟩ : ∃ TG, drainN (doN way n) (d : Int) (r.behind (d : Int)).length r = TG := ⟨_, rfl⟩
  rw [hTG]
  have HST : Hid (∃ (rm : Runr) (cm : Lay), Since w w R way c rm (wm rm P) cm ∧ Good rm ∧ Fits rm P ∧ pot rm ≤ 47 ∧ sum6 rm.behind ≤ n ∧ drainN (doN way n) (d : Int) (rm.behind (d : Int)).length rm = TG) := ⟨r, c, Since.start h, hg, hf, hpot, hsum, hTG⟩
  clear hD h hg hf hp hpot hsum hTG
  go_enter Tryz.func73, Tryz.ntmps73
  go_wp2_with fail
  go_loopw [4] (fun _ wr => ∃ (rm : Runr) (cm : Lay), Since w wr R way c rm (wm rm P) cm ∧ Good rm ∧ Fits rm P ∧ pot rm ≤ 47 ∧ sum6 rm.behind ≤ n ∧ drainN (doN way n) (d : Int) (rm.behind (d : Int)).length rm = TG) (fun _ wr => mu wr)
  case atStart => exact HST.out
  case round =>
    obtain ⟨rm, cm, hsi, hgood, hfits, hpot, hsum, hdr⟩ := hrel
    have HSI := hid_l hsi
    have HOK := hid_l (And.intro hgood (And.intro hfits (And.intro hpot hsum)))
    have HDR := hid_l hdr
    obtain ⟨ad7, c7, hv7, htl⟩ := tail_cells (hsi.run.rows d (by omega)) rfl
    obtain ⟨m5, hm5⟩ := hsi.run.beh
    have HM5 : Hid (∀ W, Below wr.heap.size wr W → MapIs W cm.B cm.h m5) := fun W hW => hm5.turn (Turns.of_below (F := fun _ => False) hW) fun hf => hf
    have HBV : Hid ((cm.h (d : Int)).getD (.slice none 0 0) = .slice ad7 (rm.behind (d : Int)).length c7) := hv7
    have c5 := hsi.run.c5
    have hRr := hsi.run.lt
    clear hsi hgood hfits hpot hsum hdr hm5
    cases hb : rm.behind (d : Int) with
    | nil =>
      have HTE : Hid (rm = TG) := by show _ = _; rw [← HDR.out, drain_stop (.inr hb)]
      have HBN := hid_l (behind_nil hb)
      rw [hb] at HBV
      simp only [List.length_nil] at HBV
      clear hb htl hv7
      go_wp2_with (first | (at_lookup; refine wp_look _ rfl (.tmp 8) (.tmp 9) 52 false rfl 22 Tryz.underlying52 (.slice none 0 0) (zero_ops _) cm.B m5 cm.h rfl (HM5.out _ (Below.refl _ _)) (d : Int) rfl hwf (.slice ad7 0 c7) _ HBV.out rfl ?_) | (at_lookup; refine wp_look _ rfl (.tmp 45) (.tmp 46) 52 false rfl 22 Tryz.underlying52 (.slice none 0 0) (zero_ops _) cm.B m5 cm.h rfl (HM5.out _ (Below.refl _ _)) (d : Int) rfl hwf (.slice ad7 0 c7) _ HBV.out rfl ?_) | (at_delete; refine wp_drop _ rfl (.tmp 53) (.tmp 54) 52 rfl 22 Tryz.underlying52 cm.B m5 cm.h rfl (HM5.out _ (Below.refl _ _)) (d : Int) rfl hwf ?_; intro w9 m9 hm9 ht9))
      go_end0
      refine ⟨rfl, ?_⟩
      have hst := HSI.out.run.dropBeh (d := d) (by omega) hm9 ht9
      rw [HBN.out] at hst
      obtain ⟨c9, hc9⟩ := HSI.out.step hst
      rw [← HTE.out]
      exact hc9.done
    | cons o q =>
      have hwm := wm_some rm HP.out
      cases hw : rm.waits (d : Int) with
      | true =>
        have HTE : Hid (rm = TG) := by show _ = _; rw [← HDR.out, drain_stop (.inl hw)]
        rw [hb] at HBV
        simp only [List.length_cons] at HBV
        rw [hw] at hwm
        have HIW : Hid (Calls Tryz.prog 37 #[.pointer (some ⟨R, 0, none⟩), .int .i64 d] wr fun e w' => e = .returned (.bool true) ∧ Below wr.heap.size wr w') := by have := isWaiting_run HSI.out.run (wm_lock rm P) hwf; rw [hwm] at this; exact this
        have hql : (0 : Int) < ((q.length + 1 : Nat) : Int) := by omega
        clear hb htl hv7 hw hwm
        go_wp2_with (at_lookup; refine wp_look _ rfl (.tmp 8) (.tmp 9) 52 false rfl 22 Tryz.underlying52 (.slice none 0 0) (zero_ops _) cm.B m5 cm.h rfl (HM5.out _ (Below.refl _ _)) (d : Int) rfl hwf (.slice ad7 (q.length + 1) c7) _ HBV.out rfl ?_)
        refine HIW.out.mono ?_
        rintro e w1 ⟨rfl, hb1⟩
        have c5' : w1.cell? ⟨R, 5, none⟩ = some (.map (some cm.B)) := (HSI.out.run.below hb1).c5
        have HB1 := hid_l hb1
        clear hb1 c5 hRr
        go_wp2_with (at_lookup; refine wp_look _ rfl (.tmp 45) (.tmp 46) 52 false rfl 22 Tryz.underlying52 (.slice none 0 0) (zero_ops _) cm.B m5 cm.h rfl (HM5.out _ HB1.out) (d : Int) rfl hwf (.slice ad7 (q.length + 1) c7) _ HBV.out rfl ?_)
        go_end0
        exact ⟨rfl, by rw [← HTE.out]; exact (HSI.out.below HB1.out).done⟩
      | false =>
        obtain ⟨p1, p2, p3, p4, p5, p6⟩ := pop_ok HOK.out.1 (show (1 : Int) ≤ (d : Int) by omega) (show (d : Int) ≤ 6 by omega) hb
        have HPOP := hid_l (And.intro p1 (And.intro p2 (And.intro p3 (And.intro p4 (And.intro p5 p6)))))
        have HNXT := hid_l (drain_next HDO.out (show (1 : Int) ≤ (d : Int) by omega) (show (d : Int) ≤ 6 by omega) HOK.out.1 hw hb)
        have HBE : Hid (rm.behind (d : Int) = o :: q) := hb
        have HWF : Hid (rm.waits (d : Int) = false) := hw
        obtain ⟨g7, off7, rfl, hg7b, hg7, hcap7, e0, e1, e2⟩ := htl (by rw [hb]; simp)
        rw [hb] at HBV hcap7 e0 e1 e2
        obtain ⟨ot2, oa2, oi2⟩ := o
        simp only [List.length_cons, opAt, List.getD, List.getElem?_cons_zero, Option.getD_some] at HBV hcap7 e0 e1 e2
        rw [hw] at hwm
        have HIW : Hid (Calls Tryz.prog 37 #[.pointer (some ⟨R, 0, none⟩), .int .i64 d] wr fun e w' => e = .returned (.bool false) ∧ Below wr.heap.size wr w') := by have := isWaiting_run HSI.out.run (wm_lock rm P) hwf; rw [hwm] at this; exact this
        have hql : (0 : Int) < ((q.length + 1 : Nat) : Int) := by omega
        have hql47 : q.length + 1 ≤ 47 := by
          have h1 := sum_le (f := rm.behind) (show (1 : Int) ≤ (d : Int) by omega) (show (d : Int) ≤ 6 by omega)
          have h2 := HOK.out.2.2.1
          rw [hb] at h1
          unfold pot at h2
          simp only [List.length_cons] at h1
          omega
        clear hb htl hv7 hw hwm p1 p2 p3 p4 p5 p6
        go_wp2_with (at_lookup; refine wp_look _ rfl (.tmp 8) (.tmp 9) 52 false rfl 22 Tryz.underlying52 (.slice none 0 0) (zero_ops _) cm.B m5 cm.h rfl (HM5.out _ (Below.refl _ _)) (d : Int) rfl hwf (.slice (some ⟨g7, off7, none⟩) (q.length + 1) c7) _ HBV.out rfl ?_)
        refine HIW.out.mono ?_
        rintro e w1 ⟨rfl, hb1⟩
        have c5' : w1.cell? ⟨R, 5, none⟩ = some (.map (some cm.B)) := (HSI.out.run.below hb1).c5
        have b0 := (hb1.cell (p := ⟨g7, off7, none⟩) hg7).trans e0
        have b1 := (hb1.cell (p := ⟨g7, off7 + 1, none⟩) hg7).trans e1
        have b2 := (hb1.cell (p := ⟨g7, off7 + 2, none⟩) hg7).trans e2
        have HB1 := hid_l hb1
        clear hb1 c5 hRr e0 e1 e2
        go_upto_region 2 with (at_lookup; refine wp_look _ rfl (.tmp 22) (.tmp 23) 52 false rfl 22 Tryz.underlying52 (.slice none 0 0) (zero_ops _) cm.B m5 cm.h rfl (HM5.out _ HB1.out) (d : Int) rfl hwf (.slice (some ⟨g7, off7, none⟩) (q.length + 1) c7) _ HBV.out rfl ?_)
        obtain ⟨W9, hW9⟩ : ∃ W9, W9 = w1.alloc (.cells #[.int .i64 ot2, .int .i64 oa2, .int .i64 oi2] 38) := ⟨_, rfl⟩
        rw [← hW9]
        have hb9 : Below wr.heap.size wr W9 := by rw [hW9]; exact HB1.out.alloc HB1.out.size _
        have a0 : W9.cell? ⟨w1.heap.size, 0, none⟩ = some (.int .i64 ot2) := by rw [hW9]; simp
        have a1 : W9.cell? ⟨w1.heap.size, 1, none⟩ = some (.int .i64 oa2) := by rw [hW9]; simp
        have a2 : W9.cell? ⟨w1.heap.size, 2, none⟩ = some (.int .i64 oi2) := by rw [hW9]; simp
        have hP9 : w1.heap.size < W9.heap.size := World.block_lt_of_cell? W9 _ a0
        obtain ⟨Q, hQ⟩ : ∃ Q, Q = w1.heap.size := ⟨_, rfl⟩
        have hBQ : cm.B ≠ Q := by have := (HM5.out _ (Below.refl _ _)).lt; have := HB1.out.size; omega
        rw [← hQ] at a0 a1 a2 hP9 ⊢
        have HS9 := hid_l (HSI.out.below hb9)
        have c5'' : W9.cell? ⟨R, 5, none⟩ = some (.map (some cm.B)) := HS9.out.run.c5
        have hm9 : MapIs W9.drew cm.B cm.h m5 := HM5.out _ hb9.drew
        have hlk : (Instr.lookup 52 (.map (some cm.B)) (.int .i64 d) false).run Tryz.prog W9.drew = .ok (.slice (some ⟨g7, off7, none⟩) (q.length + 1) c7) W9.drew := by have := hm9.look false Tryz.underlying52 (zero_ops _) hwf; rw [HBV.out] at this; exact this
        have hq1 : (1 : Int) ≤ ((q.length + 1 : Nat) : Int) := by omega
        have hq2 : (1 : Int) ≤ (c7 : Int) := by omega
        have hq3 : ((q.length + 1 : Nat) : Int) ≤ (c7 : Int) := by omega
        obtain ⟨X, hup, hmX, htX⟩ := hm9.store (v := .slice (if c7 = 1 then some ⟨g7, off7, none⟩ else some ⟨g7, off7 + 3, none⟩) q.length (c7 - 1)) Tryz.underlying52 (show (1 : Int) ≤ (d : Int) by omega) (show (d : Int) ≤ 6 by omega)
        have htX9 : Turns (fun k => k = cm.B) W9 X := ⟨htX.os, htX.tape, htX.output, htX.size, htX.block⟩
        have HMX := hid_l hmX
        have HTX := hid_l htX9
        have d0 : X.cell? ⟨Q, 0, none⟩ = some (.int .i64 ot2) := (htX9.cell (p := ⟨Q, 0, none⟩) hP9 (Ne.symm hBQ)).trans a0
        have d1 : X.cell? ⟨Q, 1, none⟩ = some (.int .i64 oa2) := (htX9.cell (p := ⟨Q, 1, none⟩) hP9 (Ne.symm hBQ)).trans a1
        have d2 : X.cell? ⟨Q, 2, none⟩ = some (.int .i64 oi2) := (htX9.cell (p := ⟨Q, 2, none⟩) hP9 (Ne.symm hBQ)).trans a2
        clear hW9 hb9 hQ hm9 hmX htX htX9 c5' b0 b1 b2 hBQ
        go_region
        all_goals
          obtain ⟨sv, hsv⟩ : ∃ sv, sv = Value.slice (if c7 = 1 then some ⟨g7, off7, none⟩ else some ⟨g7, off7 + 3, none⟩) q.length (c7 - 1) := ⟨_, rfl⟩
          have hsvo : sv.ownBlock = some g7 := by rw [hsv]; split <;> rfl
          have htl : Tail W9 0 38 3 sv q.length (flat q) := by
            have h1 := HS9.out.run.rows d (by omega)
            rw [HBE.out, show cm.bv (d : Int) = .slice (some ⟨g7, off7, none⟩) (q.length + 1) c7 from HBV.out] at h1
            have h2 : Tail W9 0 38 3 (.slice (some ⟨g7, off7, none⟩) (q.length + 1) c7) (q.length + 1) (flat ((ot2, oa2, oi2) :: q)) := h1
            have hd3 : (flat ((ot2, oa2, oi2) :: q)).drop 3 = flat q := rfl
            rw [← hd3, hsv]
            by_cases h7 : c7 = 1
            · rw [if_pos h7]; exact h2.pop _ (.inr ⟨h7, rfl⟩)
            · rw [if_neg h7]; exact h2.pop _ (.inl rfl)
          rw [← hsv] at HMX ⊢
          have hst := HS9.out.run.setBeh (w0 := W9) (x := some sv) (q := q) (d := d) (by omega) (Turns.refl _ _) HMX.out HTX.out htl (fun k hk => .inl (by rw [show cm.bv (d : Int) = .slice (some ⟨g7, off7, none⟩) (q.length + 1) c7 from HBV.out]; have hk2 : sv.ownBlock = some k := hk; rw [hsvo] at hk2; exact hk2))
          obtain ⟨cp, hsp⟩ := HS9.out.step hst
          have HSP : Hid (Since w X R way c (popR rm (d : Int) q) (wm (popR rm (d : Int) q) P) cp) := hsp
          have HLEN : Hid (mu wr = q.length + 1) := by show _ = _; rw [HMU.out HSI.out.run, HBE.out]; rfl
          clear hsv hsvo htl hst hsp hlk hup a0 a1 a2 HS9 HSI HMX HTX c5''
          go_wp2_with fail
          have hpot46 : pot (popR rm (d : Int) q) ≤ 46 := by have := HPOP.out.2.1; have := HOK.out.2.2.1; omega
          have hsumn : sum6 (popR rm (d : Int) q).behind < n := by have := HPOP.out.2.2.1; have := HOK.out.2.2.2; omega
          have hout : (popR rm (d : Int) q).out ((ot2, oa2, oi2) : Op3).1 = false := by rw [HPOP.out.2.2.2.1]; exact HPOP.out.2.2.2.2.2
          have hwts : (popR rm (d : Int) q).waits ((ot2, oa2, oi2) : Op3).1 = false := by rw [HPOP.out.2.2.2.1]; exact HWF.out
          have hfp : Fits (popR rm (d : Int) q) P := HOK.out.2.1.behind _
          refine (HD.out R (popR rm (d : Int) q) cp P (ot2, oa2, oi2) X HSP.out.run HPOP.out.1 hfp hpot46 hsumn hout hwts HPOP.out.2.2.2.2.1).mono ?_
          rintro e Z ⟨rfl, hstz⟩
          have hsd := HDO.out (popR rm (d : Int) q) (ot2, oa2, oi2) HPOP.out.1 hout hwts HPOP.out.2.2.2.2.1
          have hfd := HDF.out (popR rm (d : Int) q) (ot2, oa2, oi2) P HPOP.out.1 hfp hout hwts HPOP.out.2.2.2.2.1
          obtain ⟨cq, hgq⟩ := HSP.out.step hstz
          have HGQ := hid_l hgq
          have HSD := hid_l hsd
          have HFD := hid_l hfd
          clear hpot46 hsumn hout hwts hstz hsd hgq d0 d1 d2 hfd hfp
          go_wp2_with fail
          go_roundw
          case rel => exact ⟨_, cq, HGQ.out, HSD.out.good, HFD.out, by have := HSD.out.pots; have := HPOP.out.2.1; have := HOK.out.2.2.1; omega, by have := sum_mono HSD.out.less; have := HPOP.out.2.2.1; have := HOK.out.2.2.2; omega, HNXT.out.symm.trans HDR.out⟩
          case measure =>
            rw [HLEN.out, HMU.out HGQ.out.run]
            have h1 := HSD.out.less (d : Int)
            have h2 : ((popR rm (d : Int) q).behind (d : Int)).length = q.length := by show (setF rm.behind (d : Int) q (d : Int)).length = _; rw [setF_same]
            omega
end Go.Proofs.YtmjjiehnjghndaaGreat
