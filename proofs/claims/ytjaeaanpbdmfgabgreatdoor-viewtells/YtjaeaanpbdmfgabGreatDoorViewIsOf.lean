/-
  PROVED HERE: view.sight's isOf tells of names whether they come to the same sight: the same names, each reads the same, the same is left. Old memory stays as it was.
  Conditions: none.
-/
import Derived.Test.YtjaeaanpbdmfgabGreatDoorViewLook
import Derived.Deep.QuietTactic
import Derived.BigQuiet
import Derived.WalkSmall
namespace Go.Proofs.YtjaeaanpbdmfgabGreatDoor
open Go.RowKit Go.Maps

theorem seen_at {h g : List Op3} {i k : Nat} (hi : i < h.length) (hn : nameAt h i = nameAt g k) : seenB h g k = (srcN h i == srcN g k) := by
  rw [Bool.eq_iff_iff, seenB_iff, beq_iff_eq]
  constructor
  · rintro ⟨j, j1, j2, j3⟩
    rw [name_inj hi j1 (hn.trans j2.symm)]; exact j3
  · intro e
    exact ⟨i, hi, hn, e⟩
theorem seen_no {h g : List Op3} {k : Nat} (hn : ∀ i, i < h.length → nameAt h i ≠ nameAt g k) : seenB h g k = false := by
  cases hb : seenB h g k with
  | false => rfl
  | true =>
    obtain ⟨i, i1, i2, _⟩ := seenB_iff.1 hb
    exact absurd i2 (hn i i1)
theorem nm_zero (w : World) : (zeroValue 79).run Tryz.prog w = .ok (nmV zN) w := by kernel_rfl
theorem wpList_lookup_nm {ops : Array Oper} {rest : List Oper} {o : Oper} {a : Act} {w : World} {Q : Exit → Act → World → Prop} (hg : o.guard = none) (m x : Operand) (hop : o.op = Op.lookup 77 m x true)
    (b n : Nat) (D : DataW Unit) (hm : a.eval m = .map (some b)) (hown : w.ownsMap Tryz.prog 79 nmElem b n D) (key : Value) (kl : Lit) (hx : a.eval x = key) (hkey : keyOf Tryz.prog 79 key = some kl)
    (s : Nm) (hs : D.atKey kl (nmD zN) = nmD s) (q : Bool) (hq : Maps.has D kl = q) (hK : wpList Tryz.prog ops Q rest (a.put o.dst (.tuple #[nmV s, .bool q])) w) : wpList Tryz.prog ops Q (o :: rest) a w :=
  wpList_lookup_own_ok w hg m x _ hop 79 79 fLaw Tryz.underlying77 nmElem (nm_zero w) (nmD zN) [] (nmElem_mk zN) b n D hm hown key kl hx hkey (fun v ps hv => by
    rw [hs] at hv
    rw [nmElem_inv hv, hq]
    exact hK)

set_option maxHeartbeats 4000000 in
theorem viewIs1_any (h g : List Op3) (k M S : Nat) (f : Nat → Nm) (D : DataW Unit) (W : World) (hl : h.length ≤ 40) (hop : ∀ o ∈ h, isOpB o = true) (hl2 : g.length ≤ 40) (hop2 : ∀ o ∈ g, isOpB o = true) (hk : k < g.length) (hL : Looked W M h h.length D) (hS : SightAt W S M f) :
    Calls Tryz.prog 77 #[nmV (nameAt g k), nmV (srcN g k), .pointer (some ⟨S, 0, none⟩)] W fun e W' => e = .returned (.bool (seenB h g k)) ∧ Below W.heap.size W W' := by
  have hsn := small_name hl2 hop2 hk
  have hss := small_src hl2 hop2 (Nat.le_of_lt hk)
  have HK : Hid (keyOf Tryz.prog 79 (nmV (nameAt g k)) = some (nmL (nameAt g k))) := nm_key _ hsn
  have HOWN : Hid (W.ownsMap Tryz.prog 79 nmElem M h.length D) := hL.own
  have hc := hS.map
  have hcl := World.block_lt_of_cell? W _ hc
  simp only at hcl
  obtain ⟨hf1, hf2⟩ := hL.froms (nameAt g k) hsn
  by_cases hex : ∃ i, i < h.length ∧ nameAt h i = nameAt g k
  · obtain ⟨i, hi, hin⟩ := hex
    obtain ⟨hhas, hat⟩ := hf1 i hi hin
    have HSE : Hid (seenB h g k = (srcN h i == srcN g k)) := seen_at hi hin
    have hsi := small_src hl hop (Nat.le_of_lt hi)
    have HEQ : Hid (∀ W, (Op.equal 79 (nmV (srcN h i)) (nmV (srcN g k))).run Tryz.prog W = .ok (srcN h i == srcN g k) W) := fun W => eq_name _ _ hsi hss W
    obtain ⟨⟨⟨t, a, x⟩, m⟩, hnm⟩ : ∃ n, nameAt g k = n := ⟨_, rfl⟩
    obtain ⟨⟨⟨s1, s2, s3⟩, sm⟩, hsr⟩ : ∃ n, srcN g k = n := ⟨_, rfl⟩
    obtain ⟨⟨⟨r1, r2, r3⟩, rm⟩, hsr2⟩ : ∃ n, srcN h i = n := ⟨_, rfl⟩
    rw [hsr2] at hat
    rw [hsr, hsr2] at HEQ HSE
    rw [hnm] at HK hat hhas
    rw [hnm, hsr, HSE.out]
    have HAT : Hid (D.atKey (nmL ((t, a, x), m)) (nmD zN) = nmD ((r1, r2, r3), rm) ∧ Maps.has D (nmL ((t, a, x), m)) = true) := ⟨hat, hhas⟩
    clear hnm hsr hsr2 hat hhas hf1 hf2 hin hi hsi hss hsn HSE hop hop2 hL hS hk
    obtain ⟨q, hq⟩ : ∃ q, ((((r1, r2, r3), rm) : Nm) == ((s1, s2, s3), sm)) = q := ⟨_, rfl⟩
    rw [hq] at HEQ ⊢
    clear hq
    unfold nmV at HK HEQ ⊢
    simp only at HK HEQ ⊢
    go_enter Tryz.func77, Tryz.ntmps77
    go_wp2_with (first | (at_lookup; refine wpList_lookup_nm rfl (.tmp 10) (.tmp 11) rfl M h.length D rfl ((HOWN.out.alloc _).alloc _) (.agg #[.int .i64 t, .int .i64 a, .int .i64 x, .int .i64 m]) (nmL ((t, a, x), m)) rfl HK.out ((r1, r2, r3), rm) HAT.out.1 true HAT.out.2 ?_; unfold nmV; simp only) | refine wpList_eql_agg rfl 79 79 (.tmp 17) (.tmp 18) rfl #[.int .i64 r1, .int .i64 r2, .int .i64 r3, .int .i64 rm] #[.int .i64 s1, .int .i64 s2, .int .i64 s3, .int .i64 sm] rfl rfl nGuard q (HEQ.out _) ?_)
    go_ret
    exact ⟨rfl, (((Below.refl _ W).alloc (Nat.le_refl _) _).alloc (by simp) _).alloc (by simp; omega) _⟩
  · have hhas := hf2 fun i hi he => hex ⟨i, hi, he⟩
    have HSE : Hid (seenB h g k = false) := seen_no fun i hi he => hex ⟨i, hi, he⟩
    have hat := atKey_of_not_has hhas (nmD zN)
    obtain ⟨⟨⟨t, a, x⟩, m⟩, hnm⟩ : ∃ n, nameAt g k = n := ⟨_, rfl⟩
    obtain ⟨⟨⟨s1, s2, s3⟩, sm⟩, hsr⟩ : ∃ n, srcN g k = n := ⟨_, rfl⟩
    rw [hnm] at HK hat hhas
    rw [hnm, hsr, HSE.out]
    have HAT : Hid (D.atKey (nmL ((t, a, x), m)) (nmD zN) = nmD zN ∧ Maps.has D (nmL ((t, a, x), m)) = false) := ⟨hat, hhas⟩
    clear hnm hsr hat hhas hf1 hf2 hex hss hsn HSE hop hop2 hL hS hk
    unfold nmV at HK ⊢
    simp only at HK ⊢
    go_enter Tryz.func77, Tryz.ntmps77
    go_wp2_with (at_lookup; refine wpList_lookup_nm rfl (.tmp 10) (.tmp 11) rfl M h.length D rfl ((HOWN.out.alloc _).alloc _) (.agg #[.int .i64 t, .int .i64 a, .int .i64 x, .int .i64 m]) (nmL ((t, a, x), m)) rfl HK.out zN HAT.out.1 false HAT.out.2 ?_; unfold nmV zN; simp only)
    go_ret
    exact ⟨rfl, (((Below.refl _ W).alloc (Nat.le_refl _) _).alloc (by simp) _).alloc (by simp; omega) _⟩
theorem is1_call (args : Array Value) (W : World) : (callFunc 77 args).run Tryz.prog W = .ok (.enter 77 args) W := by
  kernel_rfl
theorem IsNames.below {w w1 : World} {B : Nat} {v : Value} {l : List Nm} (h : IsNames w v l) (hb : Below B w w1) (hB : w.heap.size ≤ B) : IsNames w1 v l := by
  obtain ⟨ad, b, off, cap, hv, ha, hbB, hat⟩ := h
  have hs := hb.size
  refine ⟨ad, b, off, cap, hv, ha, ?_, hat.below hb ?_⟩
  · rcases hbB with h | h
    · exact .inl (by omega)
    · exact .inr h
  · rcases hbB with h | h
    · exact .inl (by omega)
    · exact .inr h
theorem sight_no {h g : List Op3} {k : Nat} (hk : k < g.length) (hn : seenB h g k = false) : sightB h g = false := by
  cases hb : sightB h g with
  | false => rfl
  | true => rw [(sightB_iff.1 hb).2.1 k hk] at hn; cases hn
theorem sight_len {h g : List Op3} (hn : g.length ≠ h.length) : sightB h g = false := by
  cases hb : sightB h g with
  | false => rfl
  | true => exact absurd (sightB_iff.1 hb).1 hn
theorem sight_left {h g : List Op3} (hl : g.length = h.length) (hs : ∀ k, k < g.length → seenB h g k = true) : sightB h g = leftB h g := by
  rw [Bool.eq_iff_iff, sightB_iff]
  exact ⟨fun h => h.2.2, fun h => ⟨hl, hs, h⟩⟩
theorem left_iff {h g : List Op3} : leftB h g = true ↔ ∀ x, x < 7 → lastF h h.length x = lastF g g.length x := leftB_iff

theorem wpList_load_row' {P : Program} {ops : Array Oper} {rest : List Oper} {o : Oper} {a : Act} {w : World} {Q : Exit → Act → World → Prop} (hw : Region.wanted o (yielded ops a.tmps) = true) (ty : TypeId) (x : Operand) (ho : o.op = .load ty x)
    (g : Nat) (hx : a.eval x = .pointer (some ⟨g, 0, none⟩)) (t : TypeId) (cs : Array Value) (fr : Nat × Nat) (d : TypeDesc) (hg : w.heap[g]? = some (.cells cs t fr))
    (hu : P.underlying ty = some d) (hd : (match d with | .struct _ | .array _ _ => true | _ => false) = true) (hi : (P.info? ty).map (·.size) = some cs.size)
    (h : wpList P ops Q rest (a.put o.dst (.agg cs)) w) : wpList P ops Q (o :: rest) a w :=
  Go.BigFrame.wpList_want hw fun _ hK => wp_load_row ty x ho g hx t cs fr d hg hu hd hi (hK _ _ h)
theorem wpList_load_mid' {P : Program} {ops : Array Oper} {rest : List Oper} {op : Oper} {a : Act} {w : World} {Q : Exit → Act → World → Prop} (hw : Region.wanted op (yielded ops a.tmps) = true) (ty : TypeId) (x : Operand) (ho : op.op = .load ty x)
    (b o : Nat) (hx : a.eval x = .pointer (some ⟨b, o, none⟩)) (cs : List Value) (d : TypeDesc) (hc : w.rangeAt b o cs)
    (hu : P.underlying ty = some d) (hd : d.isRow = true) (hi : (P.info? ty).map (·.size) = some cs.length)
    (h : wpList P ops Q rest (a.put op.dst (.agg cs.toArray)) w) : wpList P ops Q (op :: rest) a w :=
  Go.BigFrame.wpList_want hw fun _ hK => wp_load_mid ty x ho b o hx cs d hc hu hd hi (hK _ _ h)
theorem small_lastF {l : List Op3} {k : Nat} (hl : l.length ≤ 40) (hop : ∀ o ∈ l, isOpB o = true) (hk : k ≤ l.length) : ∀ x, x < 7 → Small (lastF l k x) := fun _ _ => small_last hl hop hk _

set_option maxHeartbeats 8000000 in
set_option maxRecDepth 100000 in
theorem viewIs_any (h g : List Op3) (M : Nat) (D : DataW Unit) (nv : Value) (w : World) (hl : h.length ≤ 40) (hop : ∀ o ∈ h, isOpB o = true) (hl2 : g.length ≤ 40) (hop2 : ∀ o ∈ g, isOpB o = true) (hL : Looked w M h h.length D) (hN : IsNames w nv (namesTo g g.length)) :
    Calls Tryz.prog 48 #[.agg (cells29 M (lastF h h.length)), nv] w fun e w' => e = .returned (.bool (sightB h g)) ∧ Below w.heap.size w w' := by
  have HOP : Hid ((∀ o ∈ h, isOpB o = true) ∧ (∀ o ∈ g, isOpB o = true)) := ⟨hop, hop2⟩
  have HN : Hid (∀ W, Below w.heap.size w W → IsNames W nv (namesTo g g.length)) := fun W hW => hN.below hW (Nat.le_refl _)
  have HL : Hid (∀ W, Below w.heap.size w W → Looked W M h h.length D) := fun W hW => hL.same (hW.block _ hL.own.lt)
  have hMl := hL.own.lt
  obtain ⟨ad, b, off, cap, hv, -, -, -⟩ := hN
  rw [namesTo_len] at hv
  subst hv
  clear hop hop2 hL
  go_enter Tryz.func48, Tryz.ntmps48
  go_upto_region 1 with (fail)
  obtain ⟨W0, hW0⟩ : ∃ W0, W0 = w.alloc (.cells (cells29 M (lastF h h.length)) 83) := ⟨_, rfl⟩
  rw [← hW0]
  have HS0 : Hid (SightAt W0 w.heap.size M (lastF h h.length)) := by rw [hW0]; exact sight_box _ _ _
  have hB0 : Below w.heap.size w W0 := by rw [hW0]; exact (Below.refl _ w).alloc (Nat.le_refl _) _
  have hs0 : w.heap.size < W0.heap.size := HS0.out.lt
  have c0 := HS0.out.map
  have HLD : Hid (Looked W0 M h h.length D) := HL.out W0 hB0
  have HB0 : Hid (Below w.heap.size w W0) := hB0
  have HN0 : Hid (IsNames W0 (.slice ad g.length cap) (namesTo g g.length)) := HN.out W0 hB0
  obtain ⟨es, clock, hes⟩ := map_block HLD.out.own
  have HES : Hid (W0.heap[M]? = some (.map es clock)) := hes
  clear hW0 hB0 HL HN hes
  by_cases hlen : g.length = h.length
  · have hne : ((g.length : Int) != (h.length : Int)) = false := by rw [hlen]; simp
    have HLEN : Hid (g.length = h.length) := hlen
    clear hlen
    go_wp2_with (at_len; refine wpList_len_own _ rfl (.tmp 10) 77 rfl 79 79 Tryz.underlying77 nmElem M h.length D rfl HLD.out.own ?_; rw [HLD.out.size])
    refine (follow_any g _ _ 77 M es clock W0 (fun _ W => W.heap[M]? = W0.heap[M]?) (seenB h g) is1_call HN0.out hl2 HOP.out.2 HES.out rfl (fun _ _ _ h hb => hb.trans h) ?_).mono ?_
    · intro k hk W hin hsv
      refine (viewIs1_any h g k M w.heap.size (lastF h h.length) D W hl HOP.out.1 hl2 HOP.out.2 hk (HLD.out.same hin) (HS0.out.same (hsv.block _ hs0 (by omega)))).mono ?_
      rintro e W' ⟨he, hb⟩
      exact ⟨he, (hb.block M (by have := hsv.size; omega)).trans hin, Save.of_below hb⟩
    rintro e w1 ⟨k, hk, hall, hno, rfl, hin, hsv⟩
    have hB1 : Below W0.heap.size W0 w1 := hsv.below hin
    have HB1 : Hid (Below w.heap.size w w1) := HB0.out.trans (hB1.mono (by omega))
    have HS1 : Hid (SightAt w1 w.heap.size M (lastF h h.length)) := HS0.out.below hB1 hs0
    have hs1 : w.heap.size < w1.heap.size := HS1.out.lt
    have HF1 : Hid (LastAt (w1.alloc (.cells (cells28 fun _ => zN) 81)) w1.heap.size (fun _ => zN)) := last_box _ _
    clear hin hsv hB1 c0 HS0 HLD HB0 HN0 HES
    by_cases hkg : k = g.length
    · have HSI : Hid (sightB h g = leftB h g) := sight_left HLEN.out fun j hj => hall j (by omega)
      rw [show decide (k = g.length) = true from decide_eq_true hkg]
      obtain ⟨r, hr, hiff⟩ : ∃ r : Bool, (∀ W, (Op.equal 81 (.agg (cells28 (lastF g g.length))) (.agg (cells28 (lastF h h.length)))).run Tryz.prog W = .ok r W) ∧ r = leftB h g := by
        refine ⟨leftB h g, fun W => ?_, rfl⟩
        obtain ⟨r, hr, hiff⟩ := eq_last (lastF g g.length) (lastF h h.length) (small_lastF hl2 HOP.out.2 (Nat.le_refl _)) (small_lastF hl HOP.out.1 (Nat.le_refl _)) W
        rw [hr]
        congr 1
        rw [Bool.eq_iff_iff, hiff, left_iff]
        exact ⟨fun h x hx => (h x hx).symm, fun h x hx => (h x hx).symm⟩
      have HSR : Hid (sightB h g = r) := by show sightB h g = r; rw [HSI.out, hiff]
      have HR : Hid (∀ W, (Op.equal 81 (.agg (cells28 (lastF g g.length))) (.agg (cells28 (lastF h h.length)))).run Tryz.prog W = .ok r W) := hr
      subst hkg
      clear hall hno hk hr hiff HSI
      go_upto_region 4 with (first | refine wpList_store_row rfl 81 (.tmp 5) (.tmp 17) rfl w1.heap.size (cells28 (lastF g g.length)) rfl rfl 81 (cells28 fun _ => zN) HF1.out (last_info' _) (by rw [cells28_size, cells28_size]) (cells28_one _) ?_ | fail)
      refine last_split w1 _ _ rfl ?_
      intro W hLW hBW
      have HLW : Hid (LastAt W w1.heap.size (lastF g g.length)) := hLW
      have HSW : Hid (SightAt W w.heap.size M (lastF h h.length)) := HS1.out.below hBW hs1
      have HBW : Hid (Below w.heap.size w W) := HB1.out.trans (hBW.mono (by omega))
      clear hLW hBW HF1 HS1 HB1
      go_wp2_with (first | refine wpList_load_row' rfl 81 (.tmp 5) rfl w1.heap.size rfl 81 (cells28 (lastF g g.length)) (0, 0) _ HLW.out Tryz.underlying81 rfl (last_info' _) ?_ | refine wpList_load_mid' rfl 81 (.tmp 22) rfl w.heap.size 1 rfl (cells28 (lastF h h.length)).toList _ HSW.out.range Tryz.underlying81 rfl (by rw [Array.length_toList, cells28_size]; exact last_info) ?_ | refine wpList_eql_agg rfl 81 81 (.tmp 21) (.tmp 23) rfl (cells28 (lastF g g.length)) (cells28 (lastF h h.length)) rfl rfl wGuard r (HR.out _) ?_)
      go_ret
      exact ⟨by rw [HSR.out]; rfl, HBW.out⟩
    · have HSI : Hid (sightB h g = false) := sight_no (by omega) (hno (by omega))
      rw [show decide (k = g.length) = false from decide_eq_false hkg]
      clear hall hno hkg
      go_upto_region 4 with (first | refine wpList_store_row rfl 81 (.tmp 5) (.tmp 17) rfl w1.heap.size (cells28 (lastF g k)) rfl rfl 81 (cells28 fun _ => zN) HF1.out (last_info' _) (by rw [cells28_size, cells28_size]) (cells28_one _) ?_ | fail)
      refine last_split w1 _ _ rfl ?_
      intro W hLW hBW
      have HBW : Hid (Below w.heap.size w W) := HB1.out.trans (hBW.mono (by omega))
      clear hLW hBW HF1 HS1 HB1
      go_wp2_with fail
      go_ret
      exact ⟨by rw [HSI.out]; rfl, HBW.out⟩
  · have hne : ((g.length : Int) != (h.length : Int)) = true := by simp; omega
    have HSI : Hid (sightB h g = false) := sight_len hlen
    clear hlen
    go_wp2_with (at_len; refine wpList_len_own _ rfl (.tmp 10) 77 rfl 79 79 Tryz.underlying77 nmElem M h.length D rfl HLD.out.own ?_; rw [HLD.out.size])
    go_ret
    exact ⟨by rw [HSI.out]; rfl, HB0.out⟩
end Go.Proofs.YtjaeaanpbdmfgabGreatDoor
