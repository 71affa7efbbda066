/-
  PROVED HERE: mix.lanesOf gives the ops of each deal, in rows of their own, as an array of slices. Old memory stays as it was.
  Conditions: there are at most 8 ops, of deals from 1 to 6.
-/
import Derived.Test.YtmjjiehnjghndaaDoorMixMem
import Derived.Laws.Rows
import Derived.Laws.CopyOwn
import Derived.BigFrame
namespace Go.Proofs.YtmjjiehnjghndaaDoor
open Go.RowKit

/-- The rows of ops as they grow: seven slices in a block, each a row of its own. -/
structure LanesAt (w : World) (B base : Nat) (A : Nat → Option Addr) (N C : Nat → Nat) (rows : Nat → List Op3) : Prop where
  arr : LnAt w B A N C
  own : ∀ d, d < 7 → w.ownsRow base 57 3 (.slice (A d) (N d) (C d)) (N d) (flat (rows d))
  len : ∀ d, d < 7 → N d = (rows d).length
  apart : ∀ d e, d < 7 → e < 7 → d ≠ e → ∀ b, (Value.slice (A d) (N d) (C d)).ownBlock = some b → (Value.slice (A e) (N e) (C e)).ownBlock ≠ some b
  lt : B < base
theorem LanesAt.later {w w1 : World} {B base : Nat} {A : Nat → Option Addr} {N C : Nat → Nat} {rows : Nat → List Op3} (h : LanesAt w B base A N C rows) (hb : Below w.heap.size w w1) : LanesAt w1 B base A N C rows where
  arr := h.arr.same (hb.block B h.arr.lt)
  own := fun d hd => TurnM.own (A := fun _ => False) (TurnM.below hb) (h.own d hd) (fun _ _ h => h)
  len := h.len
  apart := h.apart
  lt := h.lt
theorem LanesAt.push {w w1 : World} {B base : Nat} {A : Nat → Option Addr} {N C : Nat → Nat} {rows : Nat → List Op3} (h : LanesAt w B base A N C rows) {t : Nat} (ht : t < 7) {o : Op3} {a' : Option Addr} {c' : Nat}
    (hown : w1.ownsRow base 57 3 (.slice a' (N t + 1) c') (N t + 1) (flat (rows t) ++ flat [o])) (hg : w.grownBy w1 (Value.slice (A t) (N t) (C t)).ownBlock)
    (hap : ∀ g, (Value.slice a' (N t + 1) c').ownBlock = some g → (Value.slice (A t) (N t) (C t)).ownBlock = some g ∨ w.heap.size ≤ g) :
    LanesAt (w1.setCell ⟨B, t, none⟩ (.slice a' (N t + 1) c')) B base (updN A t a') (updN N t (N t + 1)) (updN C t c') (updN rows t (rows t ++ [o])) := by
  have hlt := h.lt
  have hne : some B ≠ (Value.slice (A t) (N t) (C t)).ownBlock := fun e => by have := ((h.own t ht).lt B e.symm).1; omega
  have key : ∀ e, e < 7 → e ≠ t → ∀ b, (Value.slice (A e) (N e) (C e)).ownBlock = some b → (Value.slice a' (N t + 1) c').ownBlock ≠ some b := fun e he het b hb hb2 => by
    rcases hap b hb2 with h1 | h1
    · exact h.apart t e ht he (Ne.symm het) b h1 hb
    · have := ((h.own e he).lt b hb).2; omega
  refine ⟨(h.arr.same (hg.block B h.arr.lt hne)).set ht _ _ _, fun d hd => ?_, fun d hd => ?_, fun d e hd he hde b => ?_, hlt⟩
  · by_cases hdt : d = t
    · simp only [updN, if_pos hdt]
      rw [flat_append]
      exact ownsRow_setCell_below hown hlt _
    · simp only [updN, if_neg hdt]
      refine ownsRow_setCell_below ((h.own d hd).kept hg ?_) hlt _
      cases hv : (Value.slice (A d) (N d) (C d)).ownBlock with
      | none => exact .inl rfl
      | some k => exact .inr fun e => h.apart d t hd ht hdt k hv e.symm
  · by_cases hdt : d = t
    · simp only [updN, if_pos hdt]
      rw [List.length_append, ← h.len t ht]; rfl
    · simp only [updN, if_neg hdt]
      exact h.len d hd
  · by_cases hdt : d = t
    · have het : e ≠ t := fun e' => hde (hdt.trans e'.symm)
      simp only [updN, if_pos hdt, if_neg het]
      exact fun h1 h2 => key e he het b h2 h1
    · by_cases het : e = t
      · simp only [updN, if_neg hdt, if_pos het]
        exact fun h1 => key d hd hdt b h1
      · simp only [updN, if_neg hdt, if_neg het]
        exact h.apart d e hd he hde b
def rowsTo (l : List Op3) (k : Nat) : Nat → List Op3 := fun d => ofL (l.take k) (d : Int)
theorem rowsTo_all (l : List Op3) : rowsTo l l.length = rowsL l := by unfold rowsTo rowsL; rw [List.take_length]
theorem rowsTo_succ {l : List Op3} {k : Nat} (hk : k < l.length) {o : Op3} (ho : opAt l k = o) (h1 : 1 ≤ o.1) : rowsTo l (k + 1) = updN (rowsTo l k) o.1.toNat (rowsTo l k o.1.toNat ++ [o]) := by
  have hs : l.take (k + 1) = l.take k ++ [o] := by
    rw [List.take_succ_eq_append_getElem hk, ← ho]; simp [opAt, List.getD, List.getElem?_eq_getElem hk]
  funext d
  unfold rowsTo updN
  rw [hs, ofL_append, ofL_cons]
  by_cases hd : d = o.1.toNat
  · rw [if_pos hd, if_pos (show o.1 = (d : Int) by omega), hd]; simp [ofL]
  · rw [if_neg hd, if_neg (show ¬ o.1 = (d : Int) by omega)]; simp [ofL]
theorem lanes_start (w : World) (B base : Nat) (hB : B < base) (h : LnAt w B (fun _ => none) (fun _ => 0) (fun _ => 0)) (l : List Op3) : LanesAt w B base (fun _ => none) (fun _ => 0) (fun _ => 0) (rowsTo l 0) where
  arr := h
  own := fun d _ => World.ownsRow_nil w base _ 3
  len := fun d _ => rfl
  apart := fun d e _ _ _ b hb => by simp [Value.ownBlock] at hb
  lt := hB
theorem LanesAt.rows {w : World} {B base : Nat} {A : Nat → Option Addr} {N C : Nat → Nat} {rows : Nat → List Op3} (h : LanesAt w B base A N C rows) (h0 : rows 0 = []) {lo : Nat} (hlo : lo ≤ base) : RowsN w (fun k => k < lo) A N C rows where
  none := h0
  len := fun d hd => by
    refine ⟨h.len d hd, ?_⟩
    obtain ⟨_, ⟨hv, hn⟩ | ⟨g, cap, cur, hv, _, _, hn, _⟩⟩ := h.own d hd
    · rw [hn]; exact Nat.zero_le _
    · simp only [Value.slice.injEq] at hv
      obtain ⟨_, _, hc⟩ := hv
      rw [hc]; exact hn
  ops := fun d hd => isOps_own (h.own d hd) (h.len d hd).symm
  far := fun d hd b hb => by have := ((h.own d hd).lt b hb).1; omega
theorem TurnM.row {A : Nat → Prop} {w : World} {g : Nat} (hg : A g) (cs : Array Value) : TurnM A w (w.setRow g cs) :=
  ⟨rfl, rfl, rfl, by simp [World.setRow], fun k _ hn => setRow_other w g k _ (fun e => hn (e ▸ hg))⟩
theorem RowsN.mono {w : World} {Ch Dh : Nat → Prop} {A : Nat → Option Addr} {N C : Nat → Nat} {rows : Nat → List Op3} (h : RowsN w Ch A N C rows) (hc : ∀ k, Dh k → Ch k) : RowsN w Dh A N C rows :=
  ⟨h.none, h.len, h.ops, fun d hd b hb hD => h.far d hd b hb (hc b hD)⟩
theorem lanes_info : (Tryd.prog.info? 76).map (·.size) = some 7 := by kernel_rfl
theorem arrN_one (A : Nat → Option Addr) (N C : Nat → Nat) : (arrN A N C).all (·.oneCell') = true := by simp [arrN, Value.oneCell']
theorem op_newN (W : World) (o : Op3) : ∀ j u, (flat [o])[j]? = some u → (W.alloc (.cells #[.int .i64 o.1, .int .i64 o.2.1, .int .i64 o.2.2] 57)).cell? ((⟨W.heap.size, 0, none⟩ : Addr).add j) = some u := one_at W o.1 o.2.1 o.2.2

set_option maxHeartbeats 8000000 in
theorem lanes_any (l : List Op3) (v : Value) (w : World) (hI : IsOps w v l) (hl : l.length ≤ 8) (hin : ∀ o ∈ l, 1 ≤ o.1 ∧ o.1 ≤ 6) :
    Calls Tryd.prog 45 #[v] w fun e w' => ∃ A N C, e = .returned (.agg (arrN A N C)) ∧ RowsN w' (fun k => k < w.heap.size) A N C (rowsL l) ∧ Below w.heap.size w w' := by
  obtain ⟨ad, b, off, cap, rfl, ha, _, hbB, hops⟩ := hI
  have HO : Hid (∀ W, Below w.heap.size w W → ∀ k, k < l.length → ad = some ⟨b, off, none⟩ ∧ W.cell? ⟨b, off + k * 3, none⟩ = some (.int .i64 (opAt l k).1) ∧ W.cell? ⟨b, off + k * 3 + 1, none⟩ = some (.int .i64 (opAt l k).2.1) ∧ W.cell? ⟨b, off + k * 3 + 2, none⟩ = some (.int .i64 (opAt l k).2.2)) := fun W hW k hk => ⟨ha (by omega), (hops.below hW hbB) k hk⟩
  have HIN := hid_mm hin
  clear ha hbB hops hin
  obtain ⟨i0, hi, hz0, hs0, hy0⟩ := info_parts infoOp
  have HI : Hid (Tryd.prog.info? 57 = some i0 ∧ i0.zero = some (.agg #[.int .i64 0, .int .i64 0, .int .i64 0]) ∧ i0.size = 3 ∧ i0.bytes = 24) := ⟨hi, hz0, hs0, hy0⟩
  clear hi hz0 hs0 hy0
  go_enter Tryd.func45, Tryd.ntmps45
  go_wp2
  go_loopw [5, 8] (fun _ v8 wr => ∃ (k : Nat) (A : Nat → Option Addr) (N C : Nat → Nat), k ≤ l.length ∧ v8 = .int .i64 k ∧ Below w.heap.size w wr ∧ LnAt wr w.heap.size (fun _ => none) (fun _ => 0) (fun _ => 0) ∧ LanesAt wr (w.heap.size + 1) (w.heap.size + 2) A N C (rowsTo l k)) (fun _ v8 _ => l.length - (intOf v8).toNat)
  case atStart =>
    have h0 := ln_new w (fun _ => none) (fun _ => 0) (fun _ => 0)
    have h1 := ln_new (w.alloc (.cells (arrN (fun _ => none) (fun _ => 0) (fun _ => 0)) 76)) (fun _ => none) (fun _ => 0) (fun _ => 0)
    rw [show (w.alloc (.cells (arrN (fun _ => none) (fun _ => 0) (fun _ => 0)) 76)).heap.size = w.heap.size + 1 by simp] at h1
    exact ⟨0, fun _ => none, fun _ => 0, fun _ => 0, Nat.zero_le _, rfl, ((Below.refl _ w).alloc (Nat.le_refl _) _).alloc (by simp) _, h0.same (((Below.refl _ _).alloc (Nat.le_refl _) _).block _ (by simp)), lanes_start _ _ _ (by omega) h1 l⟩
  case round =>
    obtain ⟨k, A, N, C, hk, rfl, hbel, hz, hs⟩ := hrel
    have HZ := hid_mm hz
    have HS := hid_mm hs
    have HBW := hid_mm hbel
    have hB1 := hs.arr.lt
    clear hz hs
    by_cases hlt : k < l.length
    · have hlt' : (k : Int) < (l.length : Int) := by omega
      obtain ⟨hadr, c0, c1, c2⟩ := HO.out wr hbel k hlt
      subst hadr
      obtain ⟨⟨t, a, x⟩, ho⟩ : ∃ o : Op3, opAt l k = o := ⟨_, rfl⟩
      obtain ⟨ht1, ht6⟩ := HIN.out (t, a, x) (by rw [← ho]; exact opAt_mem hlt)
      have HRS := hid_mm (rowsTo_succ hlt ho ht1)
      rw [ho] at c0 c1 c2
      simp only at c0 c1 c2 ht1 ht6
      clear ho hbel
      go_upto_region 5 with (fail)
      obtain ⟨W, hW⟩ : ∃ W, W = wr.alloc (.cells #[.int .i64 t, .int .i64 a, .int .i64 x] 57) := ⟨_, rfl⟩
      rw [← hW]
      obtain ⟨P, hP⟩ : ∃ P, P = wr.heap.size := ⟨_, rfl⟩
      rw [← hP]
      have p0 : W.cell? ⟨P, 0, none⟩ = some (.int .i64 t) := by rw [hW, hP]; simp
      have p1 : W.cell? ⟨P, 1, none⟩ = some (.int .i64 a) := by rw [hW, hP]; simp
      have p2 : W.cell? ⟨P, 2, none⟩ = some (.int .i64 x) := by rw [hW, hP]; simp
      have hbw : Below wr.heap.size wr W := by rw [hW]; exact (Below.refl _ wr).alloc (Nat.le_refl _) _
      have HZW : Hid (LnAt W w.heap.size (fun _ => none) (fun _ => 0) (fun _ => 0)) := HZ.out.same (hbw.block _ HZ.out.lt)
      have HSW : Hid (LanesAt W (w.heap.size + 1) (w.heap.size + 2) A N C (rowsTo l k)) := HS.out.later hbw
      have HBW2 : Hid (Below w.heap.size w W) := HBW.out.trans (hbw.mono HBW.out.size)
      have hPB : w.heap.size + 1 < P := by omega
      have hPW : P < W.heap.size := World.block_lt_of_cell? W _ p0
      have ht0 : 0 ≤ t := by omega
      have ht7 : t < 7 := by omega
      obtain ⟨d, hd⟩ : ∃ d : Nat, d = t.toNat := ⟨_, rfl⟩
      have hd7 : d < 7 := by omega
      have HD := hid_mm hd
      obtain ⟨nd, hnd⟩ : ∃ n, N d = n := ⟨_, rfl⟩
      obtain ⟨cd, hcd⟩ : ∃ n, C d = n := ⟨_, rfl⟩
      obtain ⟨av, hav⟩ : ∃ n, A d = n := ⟨_, rfl⟩
      have g0 := HSW.out.arr.cell hd7
      have HOW : Hid (W.ownsRow (w.heap.size + 2) 57 3 (.slice av nd cd) nd (flat (rowsTo l k d))) := by
        show W.ownsRow _ _ _ _ _ _
        rw [← hnd, ← hcd, ← hav]; exact HSW.out.own d hd7
      have hn8 : nd ≤ 8 := by
        have h1 := HSW.out.len d hd7
        rw [hnd] at h1
        rw [h1]
        have h2 := List.length_filter_le (fun o : Op3 => o.1 == (d : Int)) (l.take k)
        have h3 : (l.take k).length ≤ k := List.length_take_le _ _
        unfold rowsTo ofL; omega
      rw [hnd, hcd, hav] at g0
      have HGO : Hid (∀ v2 w2, w2.ownsRow (w.heap.size + 2) 57 3 v2 (nd + 1) (flat (rowsTo l k d) ++ flat [(t, a, x)]) → (W.drew.alloc (.cells #[.int .i64 t, .int .i64 a, .int .i64 x] 57)).grownBy w2 (Value.slice av nd cd).ownBlock → (∀ g, v2.ownBlock = some g → (Value.slice av nd cd).ownBlock = some g ∨ (W.drew.alloc (.cells #[.int .i64 t, .int .i64 a, .int .i64 x] 57)).heap.size ≤ g) →
          w2.cell? ⟨P, 0, none⟩ = some (.int .i64 t) ∧ w2.cell? ⟨w.heap.size + 1, d, none⟩ = some (.slice av nd cd) ∧ w2.frozen? ⟨w.heap.size + 1, d, none⟩ = false ∧ ∃ a' c', v2 = .slice a' (nd + 1) c' ∧
          ∃ A' N' C', LnAt (w2.setCell ⟨w.heap.size + 1, d, none⟩ v2) w.heap.size (fun _ => none) (fun _ => 0) (fun _ => 0) ∧ LanesAt (w2.setCell ⟨w.heap.size + 1, d, none⟩ v2) (w.heap.size + 1) (w.heap.size + 2) A' N' C' (rowsTo l (k + 1)) ∧ Below w.heap.size w (w2.setCell ⟨w.heap.size + 1, d, none⟩ v2)) := by
        intro v2 w2 hown2 hgr2 hap2
        have hB : Below W.heap.size W (W.drew.alloc (.cells #[.int .i64 t, .int .i64 a, .int .i64 x] 57)) := (Below.refl _ W).drew.alloc (Nat.le_refl _) _
        have hL := HSW.out.later hB
        have hrow : ∀ q, (Value.slice av nd cd).ownBlock = some q → w.heap.size + 2 ≤ q ∧ q < P := fun q hq => ⟨(HOW.out.lt q hq).1, by
          have h1 := HS.out.own d hd7
          rw [hnd, hcd, hav] at h1
          have := (h1.lt q hq).2; omega⟩
        have hne : ∀ q, q < w.heap.size + 2 ∨ P ≤ q → some q ≠ (Value.slice av nd cd).ownBlock := fun q hq e => by have := hrow q e.symm; omega
        obtain ⟨a', c', rfl⟩ : ∃ a' c', v2 = .slice a' (nd + 1) c' := by
          obtain ⟨_, ⟨h1, h2⟩ | ⟨g, cap, cur, h1, _⟩⟩ := hown2
          · omega
          · exact ⟨_, cap, h1⟩
        have e1 : w2.cell? ⟨w.heap.size + 1, d, none⟩ = some (.slice av nd cd) := hgr2.cell (by have := hL.arr.cell hd7; rw [hnd, hcd, hav] at this; exact this) (hne _ (.inl (by show w.heap.size + 1 < w.heap.size + 2; omega)))
        refine ⟨hgr2.cell (by rw [hB.cell (p := ⟨P, 0, none⟩) hPW]; exact p0) (hne _ (.inr (Nat.le_refl _))), e1, ?_, a', c', rfl, ?_⟩
        · have h1 := hgr2.block (w.heap.size + 1) hL.arr.lt (hne _ (.inl (by omega)))
          exact (World.frozen?_of_block (a := ⟨w.heap.size + 1, d, none⟩) h1).trans (hL.arr.thaw d)
        · refine ⟨updN A d a', updN N d (nd + 1), updN C d c', ?_, ?_, ?_⟩
          · have h1 : LnAt w2 w.heap.size (fun _ => none) (fun _ => 0) (fun _ => 0) := HZW.out.same ((hgr2.block _ (by have := HZW.out.lt; have := hB.size; omega) (hne _ (.inl (by omega)))).trans (hB.block _ HZW.out.lt))
            exact h1.same (Below.heap_setCell _ _ _ _ (by show w.heap.size ≠ w.heap.size + 1; omega))
          · have h1 := hL.push hd7 (o := (t, a, x)) (w1 := w2) (a' := a') (c' := c') (by rw [hnd]; exact hown2) (by rw [hnd, hcd, hav]; exact hgr2) (by rw [hnd, hcd, hav]; exact hap2)
            rw [hnd] at h1
            rw [HRS.out]
            rw [HD.out] at h1 ⊢
            exact h1
          · exact (((HBW2.out.trans (hB.mono HBW2.out.size)).grown hgr2 (by have := HBW2.out.size; have := hB.size; omega) (fun q hq => by have := hrow q hq; omega))).setCell (by show w.heap.size ≤ w.heap.size + 1; omega) _
      have hW2 : w.heap.size + 2 ≤ W.heap.size := by omega
      clear hW hP hbw HZ HS c0 c1 c2 HBW HRS hnd hcd hav hPB hB1
      have hdt : (d : Int) = t := by omega
      rw [hd] at g0 HGO HOW
      have hc1 : ∀ ob : Obj, (W.alloc ob).cell? ⟨w.heap.size + 1, t.toNat, none⟩ = some (.slice av nd cd) := fun ob => by rw [World.cell?_alloc_lt _ _ ⟨w.heap.size + 1, t.toNat, none⟩ (by show w.heap.size + 1 < W.heap.size; omega)]; exact g0
      clear hd HD hdt HSW HZW hd7
      go_region_law (refine step_append_apart rfl (.tmp 17) (.tmp 19) 22 rfl (w.heap.size + 2) 57 i0 (.agg #[.int .i64 0, .int .i64 0, .int .i64 0]) 3 24 Tryd.underlying22 HI.out.1 HI.out.2.1 HI.out.2.2.1 HI.out.2.2.2 rfl (by decide) (.slice av nd cd) nd (flat (rowsTo l k t.toNat)) (by simp [Act.eval]) (HOW.out.alloc _) ⟨W.heap.size, 0, none⟩ 1 1 (flat [(t, a, x)]) (by simp [Act.eval]) rfl (op_newN W (t, a, x)) (flat_one _) (by unfold maxLen; omega) (by omega) (by have := HBW2.out.size; simp; omega) ?_; intro v2 w2 hown2 hgr2 hap2; obtain ⟨e0, e1, e2, a', c', rfl, A', N', C', e3, e4, e5⟩ := HGO.out v2 w2 hown2 hgr2 hap2; have HK3 := hid_mm e3; have HK4 := hid_mm e4; have HK5 := hid_mm e5; clear e3 e4 e5 hap2 hgr2 hown2)
      all_goals
        go_wp2_with fail
        go_roundw
        case rel => exact ⟨k + 1, A', N', C', by omega, by go_num, HK5.out, HK3.out, HK4.out⟩
        case measure => simp [intOf]; omega
    · have hlt' : ¬ (k : Int) < (l.length : Int) := by omega
      obtain rfl : k = l.length := by omega
      clear hbel
      go_wp2_with (first | refine wpList_load_row rfl 76 (.tmp 3) rfl (w.heap.size + 1) rfl 76 (arrN A N C) (0, 0) _ HS.out.arr Tryd.underlying76 rfl lanes_info ?_ | refine wpList_store_row rfl 76 (.tmp 2) (.tmp 23) rfl w.heap.size (arrN A N C) rfl rfl 76 (arrN (fun _ => none) (fun _ => 0) (fun _ => 0)) HZ.out lanes_info rfl (arrN_one _ _ _) ?_)
      have h0 : rowsL l 0 = [] := by
        unfold rowsL ofL
        refine List.filter_eq_nil_iff.2 fun o ho => ?_
        have := HIN.out o ho
        simp; omega
      have hrows := HS.out.rows (lo := w.heap.size + 2) (by rw [rowsTo_all]; exact h0) (by omega)
      rw [rowsTo_all] at hrows
      refine bodyPost_ret (v := .agg (arrN A N C)) (results_cell_row Tryd.results45 _ _ w.heap.size 76 (arrN A N C) (0, 0) _ rfl (setRow_heap _ _ _ _ _ _ HZ.out) Tryd.underlying76 rfl lanes_info) rfl ⟨A, N, C, rfl, ?_, below_setRow HBW.out (Nat.le_refl _) _⟩
      exact (hrows.turn (TurnM.row (by omega) _)).mono fun k hk => by omega
end Go.Proofs.YtmjjiehnjghndaaDoor
