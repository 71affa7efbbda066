/-
  PROVED HERE: graph.ringOf, with its closure that calls itself, gives the first ring by numbers of so many; graph.Ring the first of the fewest, ErrNone where there is none, and of wrong edges Check's error. Old memory stays as it was.
  Conditions: none.
  (Of these, what the claim wants: the rest was left out.)
-/
import Derived.Test.YtmjjiehnjghndaaGraphPast
import Derived.Test.YtmjjiehnjghndaaMgae
namespace Go.Proofs.Ytmjjiehnjghndaa
open Go.RowKit

def natV (r : List Nat) : List Value := r.map fun (k : Nat) => Value.int .i64 (k : Int)
theorem natV_snoc (r : List Nat) (t : Nat) : natV (r ++ [t]) = natV r ++ [.int .i64 (t : Int)] := by simp [natV]
theorem natV_take (r : List Nat) (k : Nat) : (natV r).take k = natV (r.take k) := by simp [natV, List.map_take]
theorem own_take {w : World} {base e g n cap k : Nat} {xs : List Value} (h : w.ownsRow base e 1 (.slice (some ⟨g, 0, none⟩) n cap) n xs) (hk : k ≤ n) : w.ownsRow base e 1 (.slice (some ⟨g, 0, none⟩) k cap) k (xs.take k) := by
  obtain ⟨hl, ⟨hv, _⟩ | ⟨g', cap', cur, hv, hb, hg, hn, hm, hs, ht⟩⟩ := h
  · cases hv
  · simp only [Value.slice.injEq, Option.some.injEq, Addr.mk.injEq, and_true, true_and] at hv
    obtain ⟨rfl, rfl⟩ := hv
    refine ⟨by simp; omega, .inr ⟨g, cap, cur, rfl, hb, hg, by omega, hm, hs, ?_⟩⟩
    rw [← ht, List.take_take, Nat.mul_one, Nat.mul_one, Nat.min_eq_left hk]
theorem own_some {w : World} {base e n : Nat} {v : Value} {xs : List Value} (h : w.ownsRow base e 1 v n xs) (hn : 0 < n) : ∃ g cap, v = .slice (some ⟨g, 0, none⟩) n cap ∧ base ≤ g ∧ n ≤ cap := by
  obtain ⟨_, ⟨_, h0⟩ | ⟨g, cap, cur, hv, hb, _, hc, _⟩⟩ := h
  · omega
  · exact ⟨g, cap, hv, hb, hc⟩

theorem Past.drewN {a B n : Nat} {w w1 : World} (h : Past a B w w1) : Past a B w (w1.drewN n) := ⟨h.os, h.tape, h.output, h.size, h.block⟩
theorem Past.of_below {a B : Nat} {w w1 : World} (h : Below B w w1) : Past a B w w1 := ⟨h.os, h.tape, h.output, h.size, fun k hk _ => h.block k hk⟩
/-- The closure's four variables. -/
structure GrowAt (w : World) (p0 p1 p2 p3 base n : Nat) (m : Step7) (v : Value) (r : List Nat) : Prop where
  ring : w.cell? ⟨p0, 0, none⟩ = some v
  thaw : w.frozen? ⟨p0, 0, none⟩ = false
  own : w.ownsRow base 3 1 v r.length (natV r)
  num : w.cell? ⟨p1, 0, none⟩ = some (.int .i64 n)
  mat : MatAt w p2 m
  fn : w.cell? ⟨p3, 0, none⟩ = some (.func (.func 53) #[] #[.pointer (some ⟨p0, 0, none⟩), .pointer (some ⟨p1, 0, none⟩), .pointer (some ⟨p2, 0, none⟩), .pointer (some ⟨p3, 0, none⟩)])
  lt : p0 < base ∧ p1 < base ∧ p2 < base ∧ p3 < base ∧ base ≤ w.heap.size
  ne : p1 ≠ p0 ∧ p2 ≠ p0 ∧ p3 ≠ p0
theorem GrowAt.past {w w1 : World} {p0 p1 p2 p3 base n : Nat} {m : Step7} {v v1 : Value} {r r1 : List Nat} (h : GrowAt w p0 p1 p2 p3 base n m v r) (hp : Past p0 base w w1)
    (h1 : w1.cell? ⟨p0, 0, none⟩ = some v1) (h2 : w1.frozen? ⟨p0, 0, none⟩ = false) (h3 : w1.ownsRow base 3 1 v1 r1.length (natV r1)) : GrowAt w1 p0 p1 p2 p3 base n m v1 r1 where
  ring := h1
  thaw := h2
  own := h3
  num := (hp.cell (p := ⟨p1, 0, none⟩) h.lt.2.1 h.ne.1).trans h.num
  mat := h.mat.past hp h.lt.2.2.1 h.ne.2.1
  fn := (hp.cell (p := ⟨p3, 0, none⟩) h.lt.2.2.2.1 h.ne.2.2).trans h.fn
  lt := ⟨h.lt.1, h.lt.2.1, h.lt.2.2.1, h.lt.2.2.2.1, Nat.le_trans h.lt.2.2.2.2 hp.size⟩
  ne := h.ne
def GrowOk (f : Nat) : Prop := ∀ (r : List Nat) (w : World) (p0 p1 p2 p3 base n : Nat) (m : Step7) (v : Value), r.length + f = n → 1 ≤ n → n ≤ 6 → (∀ k ∈ r, k ≤ 6) → GrowAt w p0 p1 p2 p3 base n m v r →
  Calls Try.prog 53 #[.pointer (some ⟨p0, 0, none⟩), .pointer (some ⟨p1, 0, none⟩), .pointer (some ⟨p2, 0, none⟩), .pointer (some ⟨p3, 0, none⟩)] w fun e w' => (∃ v' r', ((growF m f r = some r' ∧ e = .returned (.bool true)) ∨ (growF m f r = none ∧ r' = r ∧ e = .returned (.bool false))) ∧ GrowAt w' p0 p1 p2 p3 base n m v' r') ∧ Past p0 base w w'

theorem ends_at {r : List Nat} (h : r ≠ []) : ∃ k, r.length = k + 1 ∧ (natV r)[k]? = some (.int .i64 (lastN r : Int)) ∧ (natV r)[0]? = some (.int .i64 (headN r : Int)) ∧ lastN r ∈ r ∧ headN r ∈ r := by
  have hl : 0 < r.length := List.length_pos_iff.2 h
  refine ⟨r.length - 1, by omega, ?_, ?_, ?_, ?_⟩
  · simp [natV, lastN, List.getLastD_eq_getLast?, List.getLast?_eq_getElem?, List.getElem?_eq_getElem (show r.length - 1 < r.length by omega)]
  · cases r with
    | nil => exact absurd rfl h
    | cons a t => simp [natV, headN]
  · rw [lastN, List.getLastD_eq_getLast?, List.getLast?_eq_some_getLast h]; exact List.getLast_mem h
  · cases r with
    | nil => exact absurd rfl h
    | cons a t => simp [headN]

set_option maxHeartbeats 4000000 in
theorem grow_zero : GrowOk 0 := by
  intro r w p0 p1 p2 p3 base n m v hn hn1 hn6 hr hG
  have HG : Hid (GrowAt w p0 p1 p2 p3 base n m v r) := hG
  have hne : r ≠ [] := fun e => by subst e; simp at hn; omega
  obtain ⟨k, hk, hla, hhe, hml, hmh⟩ := ends_at hne
  obtain ⟨g, cap, hv, hbg, hcap⟩ := own_some hG.own (by omega)
  have hnk : n = k + 1 := by omega
  have hown := hG.own
  rw [hv, hk] at hown
  have f0 := hown.cellAt k (by omega)
  have f1 := hown.cellAt 0 (by omega)
  rw [hla] at f0
  rw [hhe] at f1
  have c0 := hG.ring
  have c1 := hG.num
  rw [hv, hk] at c0
  rw [hnk] at c1
  obtain ⟨la, hlae⟩ : ∃ la, lastN r = la := ⟨_, rfl⟩
  obtain ⟨he, hhee⟩ : ∃ he, headN r = he := ⟨_, rfl⟩
  have hl6 := hr _ hml
  have hh6 := hr _ hmh
  have HR : Hid (growF m 0 r = if m la he = true then some r else none) := by show growF m 0 r = _; rw [growF, hlae, hhee]
  rw [hlae] at f0 hl6
  rw [hhee] at f1 hh6
  have c2 := hG.mat.cell (i := la) (k := he) (by omega) (by omega)
  have la7 : (la : Int) < 7 := by omega
  have he7 : (he : Int) < 7 := by omega
  have hk6 : k ≤ 5 := by omega
  clear hG hown hla hhe hml hmh hv hnk hk hlae hhee hr hne hn hn1 hn6
  cases hm : m la he with
  | true =>
    rw [hm] at c2
    have HQ : Hid (growF m 0 r = some r) := by show growF m 0 r = some r; rw [HR.out, hm]; rfl
    clear hm
    go_enter Try.func53, Try.ntmps53
    go_wp2_with fail
    go_quiet (fail)
    go_wp2_with fail
    go_ret
    exact ⟨⟨v, r, .inl ⟨HQ.out, rfl⟩, HG.out.past (Past.refl _ _ _).drewN HG.out.ring HG.out.thaw HG.out.own⟩, (Past.refl _ _ _).drewN⟩
  | false =>
    rw [hm] at c2
    have HQ : Hid (growF m 0 r = none) := by show growF m 0 r = none; rw [HR.out, hm]; rfl
    clear hm
    go_enter Try.func53, Try.ntmps53
    go_wp2_with fail
    go_quiet (fail)
    go_wp2_with fail
    go_ret
    exact ⟨⟨v, r, .inr ⟨HQ.out, rfl, rfl⟩, HG.out.past (Past.refl _ _ _).drewN HG.out.ring HG.out.thaw HG.out.own⟩, (Past.refl _ _ _).drewN⟩
set_option maxHeartbeats 8000000 in
theorem grow_succ (f : Nat) (ih : GrowOk f) : GrowOk (f + 1) := by
  intro r w p0 p1 p2 p3 base n m v hn hn1 hn6 hr hG
  have IH : Hid (GrowOk f) := ih
  have HR : Hid (∀ k ∈ r, k ≤ 6) := hr
  obtain ⟨i0, hi, hz0, hs0, hy0⟩ := info_parts infoInt
  have HT : Hid (Try.prog.info? 3 = some i0 ∧ i0.zero = some (.int .i64 0) ∧ i0.size = 1 ∧ i0.bytes = 8) := ⟨hi, hz0, hs0, hy0⟩
  obtain ⟨ad, hv⟩ : ∃ ad cap, v = .slice ad r.length cap := by
    obtain ⟨_, ⟨h1, h2⟩ | ⟨g, cap, cur, h1, _⟩⟩ := hG.own
    · exact ⟨none, 0, by rw [h1, h2]⟩
    · exact ⟨_, cap, h1⟩
  obtain ⟨cap, rfl⟩ := hv
  have HG : Hid (GrowAt w p0 p1 p2 p3 base n m (.slice ad r.length cap) r) := hG
  have c0 := hG.ring
  have c1 := hG.num
  obtain ⟨ln, hln⟩ : ∃ ln, r.length = ln := ⟨_, rfl⟩
  have HLN : Hid (r.length = ln) := hln
  rw [hln] at c0 hn
  have hne : ((ln : Int) == (n : Int)) = false := by simp; omega
  have hl5 : ln ≤ 5 := by omega
  clear hG ih hr hi hz0 hs0 hy0 hln
  go_enter Try.func53, Try.ntmps53
  go_wp2_with fail
  go_loopw [5] (fun v5 wr => ∃ (t : Nat) (vk : Value), 1 ≤ t ∧ t ≤ 7 ∧ v5 = .int .i64 t ∧ GrowAt wr p0 p1 p2 p3 base n m vk r ∧ Past p0 base w wr ∧ (∀ j, 1 ≤ j → j < t → okB m r j = true → growF m f (r ++ [j]) = none)) (fun v5 _ => 7 - (intOf v5).toNat)
  case atStart => exact ⟨1, _, by omega, by omega, rfl, HG.out, Past.refl _ _ _, fun j h1 h2 => absurd h1 (by omega)⟩
  case round =>
    clear c0 c1
    obtain ⟨t, vk, ht1, ht7, rfl, hK, hpast, hno⟩ := hrel
    have HK : Hid (GrowAt wr p0 p1 p2 p3 base n m vk r) := hK
    have HNO : Hid (∀ j, 1 ≤ j → j < t → okB m r j = true → growF m f (r ++ [j]) = none) := hno
    clear hK hno
    by_cases hlt : t < 7
    · have ht6 : (t : Int) ≤ 6 := by omega
      have hti : (t : Int) < 7 := by omega
      obtain ⟨adk, capk, hvk⟩ : ∃ ad cap, vk = .slice ad ln cap := by
        obtain ⟨_, ⟨h1, h2⟩ | ⟨g, cap, cur, h1, _⟩⟩ := HK.out.own
        · exact ⟨none, 0, by rw [h1, ← HLN.out, h2]⟩
        · exact ⟨_, cap, by rw [← HLN.out]; exact h1⟩
      subst hvk
      have c0 := HK.out.ring
      have hbase := HK.out.lt.2.2.2.2
      have hp0 : p0 < wr.heap.size := by have := HK.out.lt.1; omega
      have h30 := HK.out.ne.2.2
      have h03 : ¬ p0 = p3 := fun e => h30 e.symm
      have HOWN : Hid (wr.ownsRow base 3 1 (.slice adk ln capk) ln (natV r)) := by have h1 := HK.out.own; rw [HLN.out] at h1; exact h1
      by_cases hrn : r = []
      · have HOK : Hid (okB m r t = true) := by show okB m r t = true; rw [hrn]; rfl
        have hl0 : ln = 0 := by rw [← HLN.out, hrn]; rfl
        have hl0' : ¬ (0 : Int) < (ln : Int) := by omega
        clear hrn hl0
        go_wp2_with (
          at_builtin
          refine wpList_append_own _ rfl (.tmp 41) (.tmp 43) 35 rfl base 3 i0 (.int .i64 0) 1 8 Try.underlying35 HT.out.1 HT.out.2.1 HT.out.2.2.1 HT.out.2.2.2 rfl (by decide) (.slice adk ln capk) ln (natV r) rfl (HOWN.out.alloc _) ⟨wr.heap.size, 0, none⟩ 1 1 [.int .i64 t] rfl rfl (cell_one_new _ _ _) (by simp [Value.oneCell']) (by unfold maxLen; omega) (by omega) (by simp; omega) ?_
          intro v1 w1 hown1 hgr1 hnil1
          have hB1 : Below base wr w1 := ((Below.refl base wr).alloc hbase _).grown hgr1 (by simp; omega) (fun m hm => (HOWN.out.lt m hm).1)
          obtain ⟨g1, cap1, rfl, hg1, hcap1⟩ := own_some hown1 (by omega)
          have d0 : w1.cell? ⟨p0, 0, none⟩ = some (.slice adk ln capk) := (hB1.cell (p := ⟨p0, 0, none⟩) HK.out.lt.1).trans c0
          have z0 : w1.frozen? ⟨p0, 0, none⟩ = false := (hB1.frozen (p := ⟨p0, 0, none⟩) HK.out.lt.1).trans HK.out.thaw
          have d3 := (hB1.cell (p := ⟨p3, 0, none⟩) HK.out.lt.2.2.2.1).trans HK.out.fn
          have HOWN1 : Hid (w1.ownsRow base 3 1 (.slice (some ⟨g1, 0, none⟩) (ln + 1) cap1) (ln + 1) (natV r ++ [.int .i64 t])) := hown1
          clear hown1 hgr1 hnil1)
        have HP1 : Hid (Past p0 base wr (w1.setCell ⟨p0, 0, none⟩ (.slice (some ⟨g1, 0, none⟩) (ln + 1) cap1))) := (Past.of_below hB1).set 0 _
        have HG1 : Hid (GrowAt (w1.setCell ⟨p0, 0, none⟩ (.slice (some ⟨g1, 0, none⟩) (ln + 1) cap1)) p0 p1 p2 p3 base n m (.slice (some ⟨g1, 0, none⟩) (ln + 1) cap1) (r ++ [t])) :=
          HK.out.past HP1.out (World.cell?_setCell_same _ _ _ d0) (by rw [World.frozen?_setCell]; exact z0) (by
            rw [natV_snoc, List.length_append, HLN.out]
            exact ownsRow_setCell_below HOWN1.out HK.out.lt.1 _)
        clear d0 z0 d3 HOWN1
        refine (IH.out (r ++ [t]) _ p0 p1 p2 p3 base n m _ (by simp; have := HLN.out; omega) hn1 hn6 (fun k hk => by
          rcases List.mem_append.1 hk with h | h
          · exact HR.out k h
          · rw [List.mem_singleton.1 h]; omega) HG1.out).mono ?_
        rintro e w2 ⟨⟨v2, r2, hor, hG2⟩, hp2⟩
        have HP2 : Hid (Past p0 base w w2) := (hpast.trans HP1.out).trans hp2
        rcases hor with ⟨hsome, rfl⟩ | ⟨hnone, rfl, rfl⟩
        · have HQ : Hid (growF m (f + 1) r = some r2) := growF_hit ht1 (by omega) HOK.out hsome HNO.out
          go_wp2_with fail
          go_ret
          exact ⟨⟨v2, r2, .inl ⟨HQ.out, rfl⟩, hG2⟩, HP2.out⟩
        · have HG2 : Hid (GrowAt w2 p0 p1 p2 p3 base n m v2 (r ++ [t])) := hG2
          have hown2 := hG2.own
          rw [List.length_append, HLN.out] at hown2
          obtain ⟨g2, cap2, hv2, hg2, hcap2⟩ := own_some hown2 (by simp)
          subst hv2
          have e0 := hG2.ring
          have y0 := hG2.thaw
          simp only [List.length_singleton] at e0 hown2 hcap2
          have hlc2 : ln ≤ cap2 := by omega
          have HOWN2 : Hid (w2.ownsRow base 3 1 (.slice (some ⟨g2, 0, none⟩) ln cap2) ln (natV r)) := by
            have h1 := own_take hown2 (show ln ≤ ln + 1 by omega)
            rw [natV_take, List.take_left' HLN.out] at h1
            exact h1
          have HNN : Hid (growF m f (r ++ [t]) = none) := hnone
          clear hG2 hown2 hnone hp2
          go_wp2_with fail
          go_roundw
          case rel =>
            refine ⟨t + 1, .slice (some ⟨g2, 0, none⟩) ln cap2, by omega, by omega, by go_num, HG2.out.past ((Past.refl _ _ _).set 0 _) (World.cell?_setCell_same _ _ _ e0) (by rw [World.frozen?_setCell]; exact y0) (by rw [HLN.out]; exact ownsRow_setCell_below HOWN2.out HK.out.lt.1 _), HP2.out.set 0 _, fun j h1 h2 h3 => ?_⟩
            rcases Nat.lt_or_ge j t with h | h
            · exact HNO.out j h1 h h3
            · rw [show j = t by omega]; exact HNN.out
          case measure => simp [intOf]; omega
      · obtain ⟨k, hk, hla, -, hml, -⟩ := ends_at hrn
        have hlk : ln = k + 1 := by rw [← HLN.out]; exact hk
        obtain ⟨g, cap', hv', -, -⟩ := own_some HOWN.out (by omega)
        simp only [Value.slice.injEq, true_and] at hv'
        obtain ⟨rfl, rfl⟩ := hv'
        have f0 := HOWN.out.cellAt k (by omega)
        rw [hla] at f0
        obtain ⟨la, hlae⟩ : ∃ la, lastN r = la := ⟨_, rfl⟩
        have hl6 := HR.out _ hml
        have HOKE : Hid (okB m r t = m la t) := by show okB m r t = m la t; rw [okB_cons hrn, hlae]
        rw [hlae] at f0 hl6
        have c2 := HK.out.mat.cell (i := la) (k := t) (by omega) hlt
        have la7 : (la : Int) < 7 := by omega
        have hl0' : (0 : Int) < (ln : Int) := by omega
        have hkl : (ln : Int) - 1 = (k : Int) := by omega
        have hkl2 : (k : Int) < (ln : Int) := by omega
        clear hrn hk hla hml hlae
        cases hm : m la t with
        | false =>
          rw [hm] at c2
          have HOK : Hid (okB m r t = false) := by show okB m r t = false; rw [HOKE.out, hm]
          clear hm hlk
          go_wp2_with fail
          go_roundw
          case rel =>
            refine ⟨t + 1, _, by omega, by omega, by go_num, HK.out, hpast, fun j h1 h2 h3 => ?_⟩
            rcases Nat.lt_or_ge j t with h | h
            · exact HNO.out j h1 h h3
            · rw [show j = t by omega, HOK.out] at h3; cases h3
          case measure => simp [intOf]; omega
        | true =>
          rw [hm] at c2
          have HOK : Hid (okB m r t = true) := by show okB m r t = true; rw [HOKE.out, hm]
          clear hm hlk
          go_wp2_with (
            at_builtin
            refine wpList_append_own _ rfl (.tmp 41) (.tmp 43) 35 rfl base 3 i0 (.int .i64 0) 1 8 Try.underlying35 HT.out.1 HT.out.2.1 HT.out.2.2.1 HT.out.2.2.2 rfl (by decide) (.slice (some ⟨g, 0, none⟩) ln capk) ln (natV r) rfl (HOWN.out.alloc _) ⟨wr.heap.size, 0, none⟩ 1 1 [.int .i64 t] rfl rfl (cell_one_new _ _ _) (by simp [Value.oneCell']) (by unfold maxLen; omega) (by omega) (by simp; omega) ?_
            intro v1 w1 hown1 hgr1 hnil1
            have hB1 : Below base wr w1 := ((Below.refl base wr).alloc hbase _).grown hgr1 (by simp; omega) (fun m hm => (HOWN.out.lt m hm).1)
            obtain ⟨g1, cap1, rfl, hg1, hcap1⟩ := own_some hown1 (by omega)
            have d0 : w1.cell? ⟨p0, 0, none⟩ = some (.slice (some ⟨g, 0, none⟩) ln capk) := (hB1.cell (p := ⟨p0, 0, none⟩) HK.out.lt.1).trans c0
            have z0 : w1.frozen? ⟨p0, 0, none⟩ = false := (hB1.frozen (p := ⟨p0, 0, none⟩) HK.out.lt.1).trans HK.out.thaw
            have d3 := (hB1.cell (p := ⟨p3, 0, none⟩) HK.out.lt.2.2.2.1).trans HK.out.fn
            have HOWN1 : Hid (w1.ownsRow base 3 1 (.slice (some ⟨g1, 0, none⟩) (ln + 1) cap1) (ln + 1) (natV r ++ [.int .i64 t])) := hown1
            clear hown1 hgr1 hnil1)
          have HP1 : Hid (Past p0 base wr (w1.setCell ⟨p0, 0, none⟩ (.slice (some ⟨g1, 0, none⟩) (ln + 1) cap1))) := (Past.of_below hB1).set 0 _
          have HG1 : Hid (GrowAt (w1.setCell ⟨p0, 0, none⟩ (.slice (some ⟨g1, 0, none⟩) (ln + 1) cap1)) p0 p1 p2 p3 base n m (.slice (some ⟨g1, 0, none⟩) (ln + 1) cap1) (r ++ [t])) :=
            HK.out.past HP1.out (World.cell?_setCell_same _ _ _ d0) (by rw [World.frozen?_setCell]; exact z0) (by
              rw [natV_snoc, List.length_append, HLN.out]
              exact ownsRow_setCell_below HOWN1.out HK.out.lt.1 _)
          clear d0 z0 d3 HOWN1
          refine (IH.out (r ++ [t]) _ p0 p1 p2 p3 base n m _ (by simp; have := HLN.out; omega) hn1 hn6 (fun k hk => by
            rcases List.mem_append.1 hk with h | h
            · exact HR.out k h
            · rw [List.mem_singleton.1 h]; omega) HG1.out).mono ?_
          rintro e w2 ⟨⟨v2, r2, hor, hG2⟩, hp2⟩
          have HP2 : Hid (Past p0 base w w2) := (hpast.trans HP1.out).trans hp2
          rcases hor with ⟨hsome, rfl⟩ | ⟨hnone, rfl, rfl⟩
          · have HQ : Hid (growF m (f + 1) r = some r2) := growF_hit ht1 (by omega) HOK.out hsome HNO.out
            go_wp2_with fail
            go_ret
            exact ⟨⟨v2, r2, .inl ⟨HQ.out, rfl⟩, hG2⟩, HP2.out⟩
          · have HG2 : Hid (GrowAt w2 p0 p1 p2 p3 base n m v2 (r ++ [t])) := hG2
            have hown2 := hG2.own
            rw [List.length_append, HLN.out] at hown2
            obtain ⟨g2, cap2, hv2, hg2, hcap2⟩ := own_some hown2 (by simp)
            subst hv2
            have e0 := hG2.ring
            have y0 := hG2.thaw
            simp only [List.length_singleton] at e0 hown2 hcap2
            have hlc2 : ln ≤ cap2 := by omega
            have HOWN2 : Hid (w2.ownsRow base 3 1 (.slice (some ⟨g2, 0, none⟩) ln cap2) ln (natV r)) := by
              have h1 := own_take hown2 (show ln ≤ ln + 1 by omega)
              rw [natV_take, List.take_left' HLN.out] at h1
              exact h1
            have HNN : Hid (growF m f (r ++ [t]) = none) := hnone
            clear hG2 hown2 hnone hp2
            go_wp2_with fail
            go_roundw
            case rel =>
              refine ⟨t + 1, .slice (some ⟨g2, 0, none⟩) ln cap2, by omega, by omega, by go_num, HG2.out.past ((Past.refl _ _ _).set 0 _) (World.cell?_setCell_same _ _ _ e0) (by rw [World.frozen?_setCell]; exact y0) (by rw [HLN.out]; exact ownsRow_setCell_below HOWN2.out HK.out.lt.1 _), HP2.out.set 0 _, fun j h1 h2 h3 => ?_⟩
              rcases Nat.lt_or_ge j t with h | h
              · exact HNO.out j h1 h h3
              · rw [show j = t by omega]; exact HNN.out
            case measure => simp [intOf]; omega
    · have ht6 : ¬ (t : Int) ≤ 6 := by omega
      have HQ : Hid (growF m (f + 1) r = none) := growF_none fun j h1 h2 => HNO.out j h1 (by omega)
      go_wp2_with fail
      go_ret
      exact ⟨⟨vk, r, .inr ⟨HQ.out, rfl, rfl⟩, HK.out⟩, hpast⟩
end Go.Proofs.Ytmjjiehnjghndaa
