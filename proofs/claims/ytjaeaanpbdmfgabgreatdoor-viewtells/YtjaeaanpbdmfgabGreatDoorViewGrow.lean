/-
  PROVED HERE: view.firstOrder, with its closure that calls itself, gives the first order by numbers of which something is so, and whether there is one. Old memory stays as it was.
  Conditions: what the closure that is handed in answers is a premise.
-/
import Derived.Test.YtjaeaanpbdmfgabGreatDoorViewFollow
import Derived.Test.YtjaeaanpbdmfgabGreatDoorSerLib
namespace Go.Proofs.YtjaeaanpbdmfgabGreatDoor
open Go.RowKit

theorem vown_take {w : World} {base e g n cap k : Nat} {xs : List Value} (h : w.ownsRow base e 1 (.slice (some ⟨g, 0, none⟩) n cap) n xs) (hk : k ≤ n) : w.ownsRow base e 1 (.slice (some ⟨g, 0, none⟩) k cap) k (xs.take k) := by
  obtain ⟨hl, ⟨hv, _⟩ | ⟨g', cap', cur, hv, hb, hg, hn, hm, hs, ht⟩⟩ := h
  · cases hv
  · simp only [Value.slice.injEq, Option.some.injEq, Addr.mk.injEq, and_true, true_and] at hv
    obtain ⟨rfl, rfl⟩ := hv
    refine ⟨by simp; omega, .inr ⟨g, cap, cur, rfl, hb, hg, by omega, hm, hs, ?_⟩⟩
    rw [← ht, List.take_take, Nat.mul_one, Nat.mul_one, Nat.min_eq_left hk]
theorem vown_some {w : World} {base e n : Nat} {v : Value} {xs : List Value} (h : w.ownsRow base e 1 v n xs) (hn : 0 < n) : ∃ g cap, v = .slice (some ⟨g, 0, none⟩) n cap ∧ base ≤ g ∧ n ≤ cap := by
  obtain ⟨_, ⟨_, h0⟩ | ⟨g, cap, cur, hv, hb, _, hc, _⟩⟩ := h
  · omega
  · exact ⟨g, cap, hv, hb, hc⟩
theorem Save.set {a B : Nat} {w w1 : World} (h : Save a B w w1) (o : Nat) (v : Value) : Save a B w (w1.setCell ⟨a, o, none⟩ v) :=
  ⟨h.os, h.tape, h.output, by simpa using h.size, fun k h1 h2 => (Below.heap_setCell w1 ⟨a, o, none⟩ v k h2).trans (h.block k h1 h2)⟩
theorem Save.cell {a B : Nat} {w w1 : World} (h : Save a B w w1) {p : Addr} (hp : p.block < B) (ha : p.block ≠ a) : w1.cell? p = w.cell? p := World.cell?_of_block (h.block _ hp ha)
theorem Save.under {a B : Nat} {w w1 : World} (h : Save a B w w1) {C : Nat} (hC : C ≤ B) (ha : C ≤ a) : Below C w w1 := ⟨h.os, h.tape, h.output, h.size, fun k hk => h.block k (by omega) (by omega)⟩
def intV (r : List Int) : List Value := r.map (Value.int .i64)
theorem intV_snoc (r : List Int) (t : Int) : intV (r ++ [t]) = intV r ++ [.int .i64 t] := by simp [intV]
theorem intV_take (r : List Int) (k : Nat) : (intV r).take k = intV (r.take k) := by simp [intV, List.map_take]
/-- The closure's four variables. -/
structure TryAt (w : World) (p0 p1 p2 p3 base : Nat) (dv sv : Value) (v : Value) (b : List Int) : Prop where
  order : w.cell? ⟨p0, 0, none⟩ = some v
  thaw : w.frozen? ⟨p0, 0, none⟩ = false
  own : w.ownsRow base 3 1 v b.length (intV b)
  deals : w.cell? ⟨p1, 0, none⟩ = some dv
  so : w.cell? ⟨p2, 0, none⟩ = some sv
  fn : w.cell? ⟨p3, 0, none⟩ = some (.func (.func 78) #[] #[.pointer (some ⟨p0, 0, none⟩), .pointer (some ⟨p1, 0, none⟩), .pointer (some ⟨p2, 0, none⟩), .pointer (some ⟨p3, 0, none⟩)])
  lt : p0 < base ∧ p1 < base ∧ p2 < base ∧ p3 < base ∧ base ≤ w.heap.size
  ne : p1 ≠ p0 ∧ p2 ≠ p0 ∧ p3 ≠ p0
theorem TryAt.past {w w1 : World} {p0 p1 p2 p3 base : Nat} {dv sv v v1 : Value} {r r1 : List Int} (h : TryAt w p0 p1 p2 p3 base dv sv v r) (hp : Save p0 base w w1)
    (h1 : w1.cell? ⟨p0, 0, none⟩ = some v1) (h2 : w1.frozen? ⟨p0, 0, none⟩ = false) (h3 : w1.ownsRow base 3 1 v1 r1.length (intV r1)) : TryAt w1 p0 p1 p2 p3 base dv sv v1 r1 where
  order := h1
  thaw := h2
  own := h3
  deals := (hp.cell (p := ⟨p1, 0, none⟩) h.lt.2.1 h.ne.1).trans h.deals
  so := (hp.cell (p := ⟨p2, 0, none⟩) h.lt.2.2.1 h.ne.2.1).trans h.so
  fn := (hp.cell (p := ⟨p3, 0, none⟩) h.lt.2.2.2.1 h.ne.2.2).trans h.fn
  lt := ⟨h.lt.1, h.lt.2.1, h.lt.2.2.1, h.lt.2.2.2.1, Nat.le_trans h.lt.2.2.2.2 hp.size⟩
  ne := h.ne
theorem TryAt.below {w w1 : World} {p0 p1 p2 p3 base : Nat} {dv sv v : Value} {r : List Int} (h : TryAt w p0 p1 p2 p3 base dv sv v r) (hb : Below w.heap.size w w1) : TryAt w1 p0 p1 p2 p3 base dv sv v r :=
  have hl : p0 < w.heap.size := by have := h.lt; omega
  h.past (Save.of_below (hb.mono h.lt.2.2.2.2)) ((hb.cell (p := ⟨p0, 0, none⟩) hl).trans h.order) ((hb.frozen (p := ⟨p0, 0, none⟩) hl).trans h.thaw) (own_below h.own hb (Nat.le_refl _))
/-- What is handed in, and what it answers. -/
structure Asks (ds : List Int) (dv : Value) (N : Nat) (pa pb : Value) (p : List Int → Bool) (p0 base : Nat) (w0 : World) : Prop where
  len : ds.length ≤ 6
  deals : ∀ W, Save p0 base w0 W → IsInts W dv ds
  call : ∀ (args : Array Value) (W : World), (callFunc N args).run Tryz.prog W = .ok (.enter N args) W
  says : ∀ W, Save p0 base w0 W → ∀ ov b, IsInts W ov b → Begun ds b → b.length = ds.length → Calls Tryz.prog N #[ov, pa, pb] W fun e W' => e = .returned (.bool (p b)) ∧ Below W.heap.size W W'
def TryOk (ds : List Int) (dv : Value) (N : Nat) (pa pb : Value) (p : List Int → Bool) (p0 p1 p2 p3 base : Nat) (w0 : World) (f : Nat) : Prop := ∀ (b : List Int) (w : World) (v : Value), b.length + f = ds.length → Begun ds b → TryAt w p0 p1 p2 p3 base dv (.func (.func N) #[] #[pa, pb]) v b → Save p0 base w0 w →
  Calls Tryz.prog 78 #[.pointer (some ⟨p0, 0, none⟩), .pointer (some ⟨p1, 0, none⟩), .pointer (some ⟨p2, 0, none⟩), .pointer (some ⟨p3, 0, none⟩)] w fun e w' => (∃ v' b', ((tryO ds p f b = some b' ∧ e = .returned (.bool true)) ∨ (tryO ds p f b = none ∧ b' = b ∧ e = .returned (.bool false))) ∧ TryAt w' p0 p1 p2 p3 base dv (.func (.func N) #[] #[pa, pb]) v' b') ∧ Save p0 base w w'
theorem own_slice {w : World} {base e n : Nat} {v : Value} {xs : List Value} (h : w.ownsRow base e 1 v n xs) : ∃ ad cap, v = .slice ad n cap := by
  obtain ⟨_, ⟨h1, h2⟩ | ⟨g, cap, cur, h1, _⟩⟩ := h
  · exact ⟨none, 0, by rw [h1, h2]⟩
  · exact ⟨_, cap, h1⟩

set_option maxHeartbeats 4000000 in
theorem try_zero {ds : List Int} {dv : Value} {N : Nat} {pa pb : Value} {p : List Int → Bool} {p0 p1 p2 p3 base : Nat} {w0 : World} (hA : Asks ds dv N pa pb p p0 base w0) : TryOk ds dv N pa pb p p0 p1 p2 p3 base w0 0 := by
  intro b w v hn hB hT hS
  have hcall := hA.call
  have HT : Hid (TryAt w p0 p1 p2 p3 base dv (.func (.func N) #[] #[pa, pb]) v b) := hT
  have HSO : Hid (Calls Tryz.prog N #[v, pa, pb] w fun e W' => e = .returned (.bool (p b)) ∧ Below w.heap.size w W') := hA.says w hS v b (isInts_own hT.own rfl) hB (by omega)
  have hdI := hA.deals w hS
  obtain ⟨ad, cap, hv⟩ := own_slice hT.own
  obtain ⟨ad2, b2, off2, cap2, hdv, -⟩ := hdI
  subst hv hdv
  have c0 := hT.order
  have c1 := hT.deals
  have c2 := hT.so
  have HR : Hid (tryO ds p 0 b = if p b = true then some b else none) := rfl
  obtain ⟨ln, hln⟩ : ∃ ln, ds.length = ln := ⟨_, rfl⟩
  have hbl : b.length = ln := by omega
  rw [hbl] at c0 HSO HT
  rw [hln] at c1 HT
  have HLN : Hid (ds.length = ln) := hln
  have hbase := hT.lt.2.2.2.2
  obtain ⟨q, hq⟩ : ∃ q, p b = q := ⟨_, rfl⟩
  rw [hq] at HSO HR
  clear hA hT hS hB hn hln hbl hq
  go_enter Tryz.func78, Tryz.ntmps78
  go_wp2_with fail
  refine HSO.out.mono ?_
  rintro e w1 ⟨rfl, hb1⟩
  have HT1 := HT.out.below hb1
  have HS1 : Save p0 base w w1 := Save.of_below (hb1.mono hbase)
  cases q with
  | true =>
    have HQ : Hid (tryO ds p 0 b = some b) := HR.out
    go_wp2_with fail
    go_ret
    exact ⟨⟨_, b, .inl ⟨HQ.out, rfl⟩, by rw [HLN.out]; exact HT1⟩, HS1⟩
  | false =>
    have HQ : Hid (tryO ds p 0 b = none) := HR.out
    go_wp2_with fail
    go_ret
    exact ⟨⟨_, b, .inr ⟨HQ.out, rfl, rfl⟩, by rw [HLN.out]; exact HT1⟩, HS1⟩

set_option maxHeartbeats 8000000 in
theorem try_succ {ds : List Int} {dv : Value} {N : Nat} {pa pb : Value} {p : List Int → Bool} {p0 p1 p2 p3 base : Nat} {w0 : World} (hA : Asks ds dv N pa pb p p0 base w0) (f : Nat) (ih : TryOk ds dv N pa pb p p0 p1 p2 p3 base w0 f) : TryOk ds dv N pa pb p p0 p1 p2 p3 base w0 (f + 1) := by
  intro b w v hn hB hT hS
  have HA : Hid (Asks ds dv N pa pb p p0 base w0) := hA
  have IH : Hid (TryOk ds dv N pa pb p p0 p1 p2 p3 base w0 f) := ih
  have HBG : Hid (Begun ds b) := hB
  have HT : Hid (TryAt w p0 p1 p2 p3 base dv (.func (.func N) #[] #[pa, pb]) v b) := hT
  have HS : Hid (Save p0 base w0 w) := hS
  have hd6 := hA.len
  obtain ⟨i0, hi, hz0, hs0, hy0⟩ := info_parts infoInt
  have HI : Hid (Tryz.prog.info? 3 = some i0 ∧ i0.zero = some (.int .i64 0) ∧ i0.size = 1 ∧ i0.bytes = 8) := ⟨hi, hz0, hs0, hy0⟩
  obtain ⟨ad, cap, hv⟩ := own_slice hT.own
  subst hv
  have c0 := hT.order
  have c1 := hT.deals
  obtain ⟨ad2, b2, off2, cap2, hdv, -⟩ := hA.deals w hS
  rw [hdv] at c1
  have HDV : Hid (dv = .slice ad2 ds.length cap2) := hdv
  obtain ⟨bl, hbl⟩ : ∃ bl, b.length = bl := ⟨_, rfl⟩
  have HBL : Hid (b.length = bl) := hbl
  rw [hbl] at c0 hn
  obtain ⟨ln, hln⟩ : ∃ ln, ds.length = ln := ⟨_, rfl⟩
  have HLN : Hid (ds.length = ln) := hln
  rw [hln] at c1 hn hd6
  have hne : ((bl : Int) == (ln : Int)) = false := by simp; omega
  have hb5 : bl ≤ 5 := by omega
  have hF : bl + f + 1 = ln := by omega
  have HF : Hid (bl + f + 1 = ln) := hF
  clear hA ih hB hT hS hi hz0 hs0 hy0 hdv hbl hln hn hF
  go_enter Tryz.func78, Tryz.ntmps78
  go_wp2_with fail
  go_loopw [17] (fun v17 wr => ∃ (k : Nat) (vk : Value), k ≤ ln ∧ v17 = .int .i64 k ∧ TryAt wr p0 p1 p2 p3 base dv (.func (.func N) #[] #[pa, pb]) vk b ∧ Save p0 base w wr ∧ (∀ j, j < k → ds.getD j 0 ∉ b → tryO ds p f (b ++ [ds.getD j 0]) = none)) (fun v17 _ => ln - (intOf v17).toNat)
  case atStart => exact ⟨0, _, Nat.zero_le _, rfl, HT.out, Save.refl _ _ _, fun j hj => absurd hj (by omega)⟩
  case round =>
    clear c0 c1
    obtain ⟨k, vk, hk, rfl, hK, hpast, hno⟩ := hrel
    have HK : Hid (TryAt wr p0 p1 p2 p3 base dv (.func (.func N) #[] #[pa, pb]) vk b) := hK
    have HNO : Hid (∀ j, j < k → ds.getD j 0 ∉ b → tryO ds p f (b ++ [ds.getD j 0]) = none) := hno
    have HP : Hid (Save p0 base w wr) := hpast
    have HPW : Hid (Save p0 base w0 wr) := HS.out.trans hpast
    clear hK hno hpast
    by_cases hlt : k < ln
    · have hlt' : (k : Int) < (ln : Int) := by omega
      obtain ⟨ad3, b3, off3, cap3, hdv3, ha3, -, -, hc3⟩ := HA.out.deals wr HPW.out
      have hkd : k < ds.length := by rw [HLN.out]; exact hlt
      have d0 := hc3 k hkd
      have had := ha3 (by omega)
      rw [HDV.out] at hdv3
      simp only [Value.slice.injEq] at hdv3
      obtain ⟨e1, -, -⟩ := hdv3
      rw [← e1] at had
      subst had
      clear e1 hc3 ha3
      obtain ⟨t, ht⟩ : ∃ t, ds.getD k 0 = t := ⟨_, rfl⟩
      rw [ht] at d0
      have htm : t ∈ ds := by rw [← ht]; exact getD_mem hkd
      have HTT : Hid (ds.getD k 0 = t ∧ t ∈ ds ∧ k < ds.length) := ⟨ht, htm, hkd⟩
      clear ht htm hkd
      obtain ⟨adk, capk, hvk⟩ : ∃ ad cap, vk = .slice ad bl cap := by
        obtain ⟨a1, a2, a3⟩ := own_slice HK.out.own
        exact ⟨a1, a2, by rw [← HBL.out]; exact a3⟩
      subst hvk
      have c0 := HK.out.order
      have hbase := HK.out.lt.2.2.2.2
      have hp0 : p0 < wr.heap.size := by have := HK.out.lt.1; omega
      have h30 := HK.out.ne.2.2
      have h03 : ¬ p0 = p3 := fun e => h30 e.symm
      have HOWN : Hid (wr.ownsRow base 3 1 (.slice adk bl capk) bl (intV b)) := by have h1 := HK.out.own; rw [HBL.out] at h1; exact h1
      have HIN : Hid (IsInts wr (.slice adk bl capk) b) := isInts_own HOWN.out HBL.out
      cases hin : inB b t with
      | true =>
        have HIB : Hid (t ∈ b) := inB_iff.1 hin
        go_wp2_with fail
        refine (contains_ints b _ t _ HIN.out (by have := HBL.out; omega)).mono ?_
        rintro e w1 ⟨rfl, hw1⟩
        rw [hw1, hin]
        clear hw1 hin
        go_wp2_with fail
        go_roundw
        case rel =>
          refine ⟨k + 1, _, by omega, by go_num, HK.out, HP.out, fun j h1 h2 => ?_⟩
          rcases Nat.lt_or_ge j k with h | h
          · exact HNO.out j h h2
          · rw [show j = k by omega, HTT.out.1] at h2; exact absurd HIB.out h2
        case measure => simp [intOf]; omega
      | false =>
        have HIB : Hid (t ∉ b) := inB_not.1 hin
        go_wp2_with fail
        refine (contains_ints b _ t _ HIN.out (by have := HBL.out; omega)).mono ?_
        rintro e w1 ⟨rfl, hw1⟩
        rw [hw1, hin]
        clear hw1 hin
        go_wp2_with (
          at_builtin
          refine wpList_append_own _ rfl (.tmp 24) (.tmp 26) 23 rfl base 3 i0 (.int .i64 0) 1 8 Tryz.underlying23 HI.out.1 HI.out.2.1 HI.out.2.2.1 HI.out.2.2.2 rfl (by decide) (.slice adk bl capk) bl (intV b) rfl (HOWN.out.alloc _) ⟨wr.heap.size, 0, none⟩ 1 1 [.int .i64 t] rfl rfl (cell_one_new _ _ _) (by simp [Value.oneCell']) (by unfold maxLen; omega) (by omega) (by simp; omega) ?_
          intro v1 w1 hown1 hgr1 hnil1
          have hB1 : Below base wr w1 := ((Below.refl base wr).alloc hbase _).grown hgr1 (by simp; omega) (fun m hm => (HOWN.out.lt m hm).1)
          obtain ⟨g1, cap1, rfl, hg1, hcap1⟩ := vown_some hown1 (by omega)
          have d1 : w1.cell? ⟨p0, 0, none⟩ = some (.slice adk bl capk) := (hB1.cell (p := ⟨p0, 0, none⟩) HK.out.lt.1).trans c0
          have z0 : w1.frozen? ⟨p0, 0, none⟩ = false := (hB1.frozen (p := ⟨p0, 0, none⟩) HK.out.lt.1).trans HK.out.thaw
          have d3 := (hB1.cell (p := ⟨p3, 0, none⟩) HK.out.lt.2.2.2.1).trans HK.out.fn
          have HOWN1 : Hid (w1.ownsRow base 3 1 (.slice (some ⟨g1, 0, none⟩) (bl + 1) cap1) (bl + 1) (intV b ++ [.int .i64 t])) := hown1
          clear hown1 hgr1 hnil1)
        have HP1 : Hid (Save p0 base wr (w1.setCell ⟨p0, 0, none⟩ (.slice (some ⟨g1, 0, none⟩) (bl + 1) cap1))) := (Save.of_below hB1).set 0 _
        have HG1 : Hid (TryAt (w1.setCell ⟨p0, 0, none⟩ (.slice (some ⟨g1, 0, none⟩) (bl + 1) cap1)) p0 p1 p2 p3 base dv (.func (.func N) #[] #[pa, pb]) (.slice (some ⟨g1, 0, none⟩) (bl + 1) cap1) (b ++ [t])) :=
          HK.out.past HP1.out (World.cell?_setCell_same _ _ _ d1) (by rw [World.frozen?_setCell]; exact z0) (by
            rw [intV_snoc, List.length_append, HBL.out]
            exact ownsRow_setCell_below HOWN1.out HK.out.lt.1 _)
        clear d0 d1 z0 d3 HOWN1
        refine (IH.out (b ++ [t]) _ _ (by rw [List.length_append, HBL.out, HLN.out]; have := HF.out; simp; omega) (HBG.out.snoc HTT.out.2.1 HIB.out) HG1.out (HPW.out.trans HP1.out)).mono ?_
        rintro e w2 ⟨⟨v2, r2, hor, hG2⟩, hp2⟩
        have HP2 : Hid (Save p0 base w w2) := (HP.out.trans HP1.out).trans hp2
        rcases hor with ⟨hsome, rfl⟩ | ⟨hnone, rfl, rfl⟩
        · have HQ : Hid (tryO ds p (f + 1) b = some r2) := tryO_hit HTT.out.2.2 (by rw [HTT.out.1]; exact HIB.out) (by rw [HTT.out.1]; exact hsome) HNO.out
          clear hsome
          go_wp2_with fail
          go_ret
          exact ⟨⟨v2, r2, .inl ⟨HQ.out, rfl⟩, hG2⟩, HP2.out⟩
        · have HG2 : Hid (TryAt w2 p0 p1 p2 p3 base dv (.func (.func N) #[] #[pa, pb]) v2 (b ++ [t])) := hG2
          have hown2 := hG2.own
          rw [List.length_append, HBL.out] at hown2
          obtain ⟨g2, cap2, hv2, hg2, hcap2⟩ := vown_some hown2 (by simp)
          subst hv2
          have e0 := hG2.order
          have y0 := hG2.thaw
          simp only [List.length_singleton] at e0 hown2 hcap2
          have hlc2 : bl ≤ cap2 := by omega
          have HOWN2 : Hid (w2.ownsRow base 3 1 (.slice (some ⟨g2, 0, none⟩) bl cap2) bl (intV b)) := by
            have h1 := vown_take hown2 (show bl ≤ bl + 1 by omega)
            rw [intV_take, List.take_left' HBL.out] at h1
            exact h1
          have HNN : Hid (tryO ds p f (b ++ [t]) = none) := hnone
          clear hG2 hown2 hnone hp2
          go_wp2_with fail
          go_roundw
          case rel =>
            refine ⟨k + 1, .slice (some ⟨g2, 0, none⟩) bl cap2, by omega, by go_num, HG2.out.past ((Save.refl _ _ _).set 0 _) (World.cell?_setCell_same _ _ _ e0) (by rw [World.frozen?_setCell]; exact y0) (by rw [HBL.out]; exact ownsRow_setCell_below HOWN2.out HK.out.lt.1 _), HP2.out.set 0 _, fun j h1 h2 => ?_⟩
            rcases Nat.lt_or_ge j k with h | h
            · exact HNO.out j h h2
            · rw [show j = k by omega, HTT.out.1]; exact HNN.out
          case measure => simp [intOf]; omega
    · have hlt' : ¬ (k : Int) < (ln : Int) := by omega
      have HQ : Hid (tryO ds p (f + 1) b = none) := tryO_none fun j h1 => HNO.out j (by rw [HLN.out] at h1; omega)
      go_wp2_with fail
      go_ret
      exact ⟨⟨vk, b, .inr ⟨HQ.out, rfl, rfl⟩, HK.out⟩, HP.out⟩
theorem try_any {ds : List Int} {dv : Value} {N : Nat} {pa pb : Value} {p : List Int → Bool} {p0 p1 p2 p3 base : Nat} {w0 : World} (hA : Asks ds dv N pa pb p p0 base w0) (f : Nat) : TryOk ds dv N pa pb p p0 p1 p2 p3 base w0 f := by
  induction f with
  | zero => exact try_zero hA
  | succ f ih => exact try_succ hA f ih
end Go.Proofs.YtjaeaanpbdmfgabGreatDoor
